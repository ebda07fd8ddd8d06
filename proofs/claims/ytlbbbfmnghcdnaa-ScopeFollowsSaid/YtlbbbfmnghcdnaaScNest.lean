/- nested: blocks within one another, as the law makes them; and their registers. -/
import Derived.Test.YtlbbbfmnghcdnaaScWorks
import Derived.Test.YtlbbbfmnghcdnaaScWords
namespace Go.Proofs.Ytlbbbfmnghcdnaa
set_option maxRecDepth 20000
open Go.RowKit Go.Maps

def callT : Tree := .st 3 0 [] .nil (.ex 8 0 0 [] (nmT [97]) .nil .nil .nil .nil .nil) .nil .nil .nil
def doT (l : List Tree) : Tree := .st 4 0 [] .nil .nil .nil (treeL l) .nil
def nestB : Nat → List Tree
  | 0 => []
  | n + 1 => nestB n ++ [locT [97], callT]
def nestW (f : Nat) : Nat → List Nat
  | 0 => []
  | n + 1 => nestW f n ++ [f + n]
def nestT : List Nat → Nat → List Tree × List Nat
  | [], _ => ([], [])
  | k :: r, f => if 4 ≤ k % 8 then ([doT (nestB (k % 4))] ++ [doT (nestT r f).1], nestW f (k % 4) ++ (nestT r f).2)
    else (nestB (k % 4) ++ [doT (nestT r (f + k % 4)).1], nestW f (k % 4) ++ (nestT r (f + k % 4)).2)
theorem nestB_len : ∀ n, (nestB n).length = 2 * n
  | 0 => rfl
  | n + 1 => by rw [nestB, List.length_append, nestB_len n]; simp; omega
theorem nestW_len (f : Nat) : ∀ n, (nestW f n).length = n
  | 0 => rfl
  | n + 1 => by rw [nestW, List.length_append, nestW_len f n]; rfl
theorem nestT_len : ∀ (l : List Nat) (f : Nat), (nestT l f).2.length ≤ 3 * l.length
  | [], _ => Nat.le_refl _
  | k :: r, f => by
    rw [nestT]
    have a := nestT_len r f
    have b := nestT_len r (f + k % 4)
    split <;> simp only [List.length_append, nestW_len, List.length_cons] <;> omega
/-- A slice of bytes. -/
def BySl (w : World) (v : Value) (l : List Nat) : Prop :=
  ∃ A c, v = .slice A l.length c ∧ l.length ≤ c ∧ c ≤ 9223372036854775807 ∧ (l ≠ [] → ∃ a, A = some a ∧ a.block < w.heap.size ∧ ∀ (i x : Nat), l[i]? = some x → w.cell? (a.add i) = some (.int .u8 x) ∧ x ≤ 255)
theorem BySl.below {w w' : World} {v : Value} {l : List Nat} (h : BySl w v l) (hb : Below w.heap.size w w') : BySl w' v l := by
  obtain ⟨A, c, e, h1, h2, h3⟩ := h
  refine ⟨A, c, e, h1, h2, fun hl => ?_⟩
  obtain ⟨a, e2, h4, h5⟩ := h3 hl
  exact ⟨a, e2, Nat.lt_of_lt_of_le h4 hb.size, fun i x hx => ⟨(hb.cell (by rw [block_of_addW]; exact h4)).trans (h5 i x hx).1, (h5 i x hx).2⟩⟩
theorem add_add (a : Addr) (i : Nat) : (⟨a.block, a.off + 1, none⟩ : Addr).add i = a.add (i + 1) := by
  unfold Addr.add
  rw [if_neg (by omega : ¬ i + 1 = 0)]
  by_cases h : i = 0
  · subst h; rw [if_pos rfl]
  · rw [if_neg h]; simp only [Addr.mk.injEq, and_true, true_and]; omega
/-- What is left behind the first. -/
theorem by_tail {w : World} {a : Addr} {c k : Nat} {r : List Nat} (hc : r.length + 1 ≤ c) (hm : c ≤ 9223372036854775807) (ha : a.block < w.heap.size) (h : ∀ (i x : Nat), (k :: r)[i]? = some x → w.cell? (a.add i) = some (.int .u8 x) ∧ x ≤ 255) (b : Option Addr) (hb : ¬ c = 1 → b = some ⟨a.block, a.off + 1, none⟩) (n c' : Nat) (hn : n = r.length) (hc' : c' = c - 1) : BySl w (.slice b n c') r := by
  subst hn; subst hc'
  refine ⟨b, c - 1, rfl, by omega, by omega, fun hr => ?_⟩
  have : 0 < r.length := List.length_pos_iff.2 hr
  refine ⟨_, hb (by omega), ha, fun i x hx => ?_⟩
  rw [add_add]
  exact h (i + 1) x (by rw [List.getElem?_cons_succ]; exact hx)
theorem AtS.below {s : Nat} {w w' : World} {t : Tree} {v : Value} (h : AtS s w t v) (hb : Below w.heap.size w w') : AtS s w' t v := (at_keep (fun g hg => ⟨⟨hg.1, Nat.lt_of_lt_of_le hg.2 hb.size⟩, hb.block g hg.2⟩) t).1 _ h
theorem AtS.lower {s s' : Nat} {w : World} {t : Tree} {v : Value} (h : AtS s w t v) (hs : s' ≤ s) : AtS s' w t v := (at_keep (fun _ hg => ⟨⟨Nat.le_trans hs hg.1, hg.2⟩, rfl⟩) t).1 _ h
theorem name_new (s : List UInt8) (w : World) : Calls Try.prog 28 #[sV s] w fun e w' => ∃ v, e = .returned (pV v) ∧ AtS w.heap.size w' (nmT s) (pV v) ∧ Below w.heap.size w w' := by
  go_enter Try.func28, Try.ntmps28
  go_wp2
  go_ret
  exact ⟨_, rfl, at_ex (exC_new w 6 0 0 s _ _ _ _ _ _ _) (by simp [Since]) (at_nil _ _) (at_nil _ _) (sl_nil _ _) (sl_nil _ _) (sl_nil _ _) (sl_nil _ _) (fun _ _ _ => Nat.zero_le _), below_alloc _ _⟩
theorem local_new (s : List UInt8) (w : World) : Calls Try.prog 29 #[sV s, .pointer none] w fun e w' => ∃ v, e = .returned (pV v) ∧ AtS w.heap.size w' (locT s) (pV v) ∧ Below w.heap.size w w' := by
  go_enter Try.func29, Try.ntmps29
  go_wp2
  go_ret
  exact ⟨_, rfl, at_st (stC_new w 1 0 s _ _ _ _ _ _) (by simp [Since]) (at_nil _ _) (at_nil _ _) (at_nil _ _) (sl_nil _ _) (sl_nil _ _), below_alloc _ _⟩
/-- Blocks of the call that are neither row. -/
def Free (lo : Nat) (w : World) (vb vw : Value) (k : Nat) : Prop := lo ≤ k ∧ k < w.heap.size ∧ vb.ownBlock ≠ some k ∧ vw.ownBlock ≠ some k
/-- A row of trees and a row of numbers, of the call's own. -/
structure NestX (lo : Nat) (w : World) (vb vw : Value) (acc : List Tree) (ns : List Nat) (xs : List Value) : Prop where
  rb : w.ownsRow lo 61 1 vb acc.length xs
  ht : ∀ (j : Nat) (t : Tree) (x : Value), acc[j]? = some t → xs[j]? = some x → At w (Free lo w vb vw) t x
  rw_ : w.ownsRow lo 3 1 vw ns.length (ns.map fun n : Nat => iV n)
theorem NestX.nil (lo : Nat) (w : World) : NestX lo w (.slice none 0 0) (.slice none 0 0) [] [] [] := ⟨World.ownsRow_nil _ _ _ _, fun j t x h => by simp at h, World.ownsRow_nil _ _ _ _⟩
theorem NestX.below {lo : Nat} {w w' : World} {vb vw : Value} {acc : List Tree} {ns : List Nat} {xs : List Value} (h : NestX lo w vb vw acc ns xs) (hb : Below w.heap.size w w') : NestX lo w' vb vw acc ns xs :=
  ⟨own_below h.rb hb, fun j t x h1 h2 => (at_keep (fun g hg => ⟨⟨hg.1, Nat.lt_of_lt_of_le hg.2.1 hb.size, hg.2.2⟩, hb.block g hg.2.1⟩) t).1 _ (h.ht j t x h1 h2), own_below h.rw_ hb⟩
theorem NestX.free {lo : Nat} {w w' : World} {vb vw : Value} {acc : List Tree} {ns : List Nat} {xs : List Value} (h : NestX lo w vb vw acc ns xs) (hlo : lo ≤ w.heap.size) {t : Tree} {x : Value} (ha : AtS w.heap.size w' t x) : At w' (Free lo w' vb vw) t x :=
  (at_keep (fun g hg => ⟨⟨Nat.le_trans hlo hg.1, hg.2, fun e => by have := (h.rb.lt g e).2; have := hg.1; omega, fun e => by have := (h.rw_.lt g e).2; have := hg.1; omega⟩, rfl⟩) t).1 _ ha
theorem NestX.more {lo m : Nat} {w w' : World} {vb vw v' : Value} {acc ts : List Tree} {ns : List Nat} {xs news : List Value} (h : NestX lo w vb vw acc ns xs) (hn : ∀ (j : Nat) (t : Tree) (x : Value), ts[j]? = some t → news[j]? = some x → At w (Free lo w vb vw) t x) (hm : m = ts.length)
    (ho : w'.ownsRow lo 61 1 v' (acc.length + m) (xs ++ news)) (hg : w.grownBy w' vb.ownBlock) (hat : v'.ownBlock = vb.ownBlock ∨ v'.ownBlock = some w.heap.size) : NestX lo w' v' vw (acc ++ ts) ns (xs ++ news) := by
  subst hm
  have hxl : xs.length = acc.length := by have := h.rb.1; omega
  have key : ∀ g, Free lo w vb vw g → Free lo w' v' vw g ∧ w'.heap[g]? = w.heap[g]? := fun g hf => ⟨⟨hf.1, Nat.lt_of_lt_of_le hf.2.1 hg.size, fun e => by
      rcases hat with h1 | h1
      · exact hf.2.2.1 (h1 ▸ e)
      · rw [h1] at e; injection e with e; have := hf.2.1; omega, hf.2.2.2⟩, hg.block g hf.2.1 (fun e => hf.2.2.1 e.symm)⟩
  refine ⟨by rw [List.length_append]; exact ho, fun j t x h1 h2 => ?_, row_keep h.rw_ fun k hk => hg.block k (h.rw_.lt k hk).2 (fun e => rows_apart h.rw_ h.rb (by decide) k hk e.symm)⟩
  by_cases hj : j < acc.length
  · rw [List.getElem?_append_left hj] at h1
    rw [List.getElem?_append_left (by omega)] at h2
    exact (at_keep key t).1 _ (h.ht j t x h1 h2)
  · rw [List.getElem?_append_right (by omega)] at h1
    rw [List.getElem?_append_right (by omega), hxl] at h2
    exact (at_keep key t).1 _ (hn _ t x h1 h2)
theorem NestX.moreW {lo m : Nat} {w w' : World} {vb vw v' : Value} {acc : List Tree} {ns ms : List Nat} {xs news : List Value} (h : NestX lo w vb vw acc ns xs) (hm : m = ms.length) (hn : news = ms.map fun n : Nat => iV n)
    (ho : w'.ownsRow lo 3 1 v' (ns.length + m) ((ns.map fun n : Nat => iV n) ++ news)) (hg : w.grownBy w' vw.ownBlock) (hat : v'.ownBlock = vw.ownBlock ∨ v'.ownBlock = some w.heap.size) : NestX lo w' vb v' acc (ns ++ ms) xs := by
  subst hm hn
  have key : ∀ g, Free lo w vb vw g → Free lo w' vb v' g ∧ w'.heap[g]? = w.heap[g]? := fun g hf => ⟨⟨hf.1, Nat.lt_of_lt_of_le hf.2.1 hg.size, hf.2.2.1, fun e => by
      rcases hat with h1 | h1
      · exact hf.2.2.2 (h1 ▸ e)
      · rw [h1] at e; injection e with e; have := hf.2.1; omega⟩, hg.block g hf.2.1 (fun e => hf.2.2.2 e.symm)⟩
  refine ⟨row_keep h.rb fun k hk => hg.block k (h.rb.lt k hk).2 (fun e => rows_apart h.rb h.rw_ (by decide) k hk e.symm), fun j t x h1 h2 => (at_keep key t).1 _ (h.ht j t x h1 h2), by rw [List.length_append, List.map_append]; exact ho⟩
/-- What nested leaves. -/
def NestS (ts : List Tree) (ns : List Nat) (w : World) (e : Ending) (w' : World) : Prop := Below w.heap.size w w' ∧ ∃ vb vw xs, e = .returned (.tuple #[vb, vw]) ∧ NestX w.heap.size w' vb vw ts ns xs
theorem lit_reads (w : World) (vs : List Value) (T : TypeId) (n : Nat) (hn : vs.length = n) : ReadsW (w.alloc (.cells vs.toArray T)) (w.heap.size + 1) 1 (some ⟨w.heap.size, 0, none⟩) n vs := by
  refine ⟨by omega, fun _ => ⟨_, rfl, by simp, fun j u hu => ?_⟩⟩
  have e : (⟨w.heap.size, 0, none⟩ : Addr).add j = ⟨w.heap.size, j, none⟩ := by
    unfold Addr.add
    by_cases h : j = 0
    · subst h; rfl
    · rw [if_neg h]; simp
  rw [e]
  simpa [go_sem] using hu
/-- A call of a name, as a statement. -/
theorem call_at {w0 w : World} {v : Nat} {T T' : TypeId} (h : AtS w0.heap.size w (nmT [97]) (pV v)) (hs : w0.heap.size ≤ w.heap.size) : AtS w0.heap.size ((w.alloc (.cells #[iV 8, iV 0, iV 0, sV [], pV v, .pointer none, .slice none 0 0, .slice none 0 0, .slice none 0 0, .slice none 0 0] T)).alloc (.cells #[iV 3, iV 0, sV [], .pointer none, pV w.heap.size, .pointer none, .slice none 0 0, .slice none 0 0] T')) callT (pV (w.heap.size + 1)) := by
  have h2 := at_ex (S := Since w0.heap.size (w.alloc (.cells #[iV 8, iV 0, iV 0, sV [], pV v, .pointer none, .slice none 0 0, .slice none 0 0, .slice none 0 0, .slice none 0 0] T))) (exC_new w 8 0 0 [] (pV v) (.pointer none) (.slice none 0 0) (.slice none 0 0) (.slice none 0 0) (.slice none 0 0) T) ⟨hs, by simp⟩ (h.below (below_alloc _ _)) (at_nil _ _) (sl_nil _ _) (sl_nil _ _) (sl_nil _ _) (sl_nil _ _) (fun _ _ _ => Nat.zero_le _)
  have h3 := AtS.below h2 (below_alloc _ (.cells #[iV 3, iV 0, sV [], .pointer none, pV w.heap.size, .pointer none, .slice none 0 0, .slice none 0 0] T'))
  have h4 := stC_new (w.alloc (.cells #[iV 8, iV 0, iV 0, sV [], pV v, .pointer none, .slice none 0 0, .slice none 0 0, .slice none 0 0, .slice none 0 0] T)) 3 0 [] (.pointer none) (pV w.heap.size) (.pointer none) (.slice none 0 0) (.slice none 0 0) T'
  have e : (w.alloc (.cells #[iV 8, iV 0, iV 0, sV [], pV v, .pointer none, .slice none 0 0, .slice none 0 0, .slice none 0 0, .slice none 0 0] T)).heap.size = w.heap.size + 1 := by simp
  rw [e] at h4
  exact at_st h4 ⟨by omega, by simp⟩ (at_nil _ _) h3 (at_nil _ _) (sl_nil _ _) (sl_nil _ _)
theorem ptr_info : (Try.prog.info? 61).map (fun i => (i.zero, i.size, i.bytes)) = some (some (.pointer none), 1, 8) := by kernel_rfl
theorem int_info : (Try.prog.info? 3).map (fun i => (i.zero, i.size, i.bytes)) = some (some (.int .i64 0), 1, 8) := by kernel_rfl
end Go.Proofs.Ytlbbbfmnghcdnaa
