/- What makes the laws' trees: name, local, back, function; works. -/
import Derived.Test.YtlbbbfmnghcdnaaScResolve
import Derived.Deep.QuietTactic
namespace Go.Proofs.Ytlbbbfmnghcdnaa
set_option maxRecDepth 20000
open Go.RowKit Go.Maps

abbrev AtB (w : World) (t : Tree) (v : Value) : Prop := At w (fun k => k < w.heap.size) t v
abbrev SlB (w : World) (t : Tree) (v : Value) : Prop := Sl w (fun k => k < w.heap.size) t v
theorem AtB.below {w w' : World} {t : Tree} {v : Value} (h : AtB w t v) (hb : Below w.heap.size w w') : AtB w' t v := (at_keep (fun g hg => ⟨Nat.lt_of_lt_of_le hg hb.size, hb.block g hg⟩) t).1 _ h
theorem SlB.below {w w' : World} {t : Tree} {v : Value} (h : SlB w t v) (hb : Below w.heap.size w w') : SlB w' t v := Sl.keep (fun g hg => ⟨Nat.lt_of_lt_of_le hg hb.size, hb.block g hg⟩) h
theorem below_alloc (w : World) (o : Obj) : Below w.heap.size w (w.alloc o) := (Below.refl _ _).alloc (Nat.le_refl _) _
theorem below_then {w a b : World} (h : Below w.heap.size w a) (k : Below a.heap.size a b) : Below w.heap.size w b := h.trans (k.mono h.size)
theorem row_of {w : World} {S : Nat → Prop} {g : Nat} (hS : S g) : ∀ (acc : List Tree) (i : Nat) (xs : List Value), xs.length = acc.length → (∀ j u, xs[j]? = some u → w.cell? ⟨g, i + j, none⟩ = some u) → (∀ (j : Nat) (t : Tree) (x : Value), acc[j]? = some t → xs[j]? = some x → At w S t x) → RowT w S (treeL acc) (some ⟨g, 0, none⟩) i
  | [], _, _, _, _, _ => trivial
  | t :: r, i, [], hl, _, _ => by simp at hl
  | t :: r, i, x :: xs, hl, hc, ht => by
    refine ⟨g, x, rfl, hS, hc 0 x rfl, ht 0 t x rfl rfl, row_of hS r (i + 1) xs (by simpa using hl) (fun j u hu => ?_) (fun j t x h1 h2 => ht (j + 1) t x h1 h2)⟩
    have := hc (j + 1) u hu
    rwa [show i + 1 + j = i + (j + 1) by omega]
theorem lenT_treeL (acc : List Tree) : lenT (treeL acc) = acc.length := by
  induction acc with
  | nil => rfl
  | cons x r ih => simp [treeL, lenT, ih]
/-- A slice that is written out. -/
theorem sl_lit (w : World) (ts : List Tree) (vs : List Value) (T : TypeId) (hl : vs.length = ts.length) (h : ∀ (j : Nat) (t : Tree) (v : Value), ts[j]? = some t → vs[j]? = some v → AtB w t v) (n : Nat) (hn : n = ts.length) : SlB (w.alloc (.cells vs.toArray T)) (treeL ts) (.slice (some ⟨w.heap.size, 0, none⟩) n n) := by
  subst hn
  refine ⟨some ⟨w.heap.size, 0, none⟩, ts.length, by rw [lenT_treeL], row_of (by simp) ts 0 vs hl (fun j u hu => ?_) (fun j t x h1 h2 => (h j t x h1 h2).below (below_alloc _ _))⟩
  rw [Nat.zero_add]
  simpa [go_sem] using hu
def nmT (s : List UInt8) : Tree := .ex 6 0 0 s .nil .nil .nil .nil .nil .nil
def locT (s : List UInt8) : Tree := .st 1 0 s .nil .nil .nil .nil .nil
def backT (t : Tree) : Tree := .st 8 0 [] .nil t .nil .nil .nil
def funT (ps : List (List UInt8)) (b : List Tree) : Tree := .ex 9 0 0 [] .nil .nil .nil .nil (treeL (ps.map .tx)) (treeL b)
theorem at_nil (w : World) (S : Nat → Prop) : At w S .nil (.pointer none) := rfl
theorem name_any (s : List UInt8) (w : World) : Calls Try.prog 28 #[sV s] w fun e w' => ∃ v, e = .returned (pV v) ∧ AtB w' (nmT s) (pV v) ∧ Below w.heap.size w w' := by
  go_enter Try.func28, Try.ntmps28
  go_wp2
  go_ret
  exact ⟨_, rfl, at_ex (exC_new w 6 0 0 s _ _ _ _ _ _ _) (by simp) (at_nil _ _) (at_nil _ _) (sl_nil _ _) (sl_nil _ _) (sl_nil _ _) (sl_nil _ _) (fun _ _ _ => Nat.zero_le _), below_alloc _ _⟩
theorem local_any (s : List UInt8) (w : World) : Calls Try.prog 29 #[sV s, .pointer none] w fun e w' => ∃ v, e = .returned (pV v) ∧ AtB w' (locT s) (pV v) ∧ Below w.heap.size w w' := by
  go_enter Try.func29, Try.ntmps29
  go_wp2
  go_ret
  exact ⟨_, rfl, at_st (stC_new w 1 0 s _ _ _ _ _ _) (by simp) (at_nil _ _) (at_nil _ _) (at_nil _ _) (sl_nil _ _) (sl_nil _ _), below_alloc _ _⟩
theorem back_any {t : Tree} {g : Nat} (w : World) (h : AtB w t (pV g)) : Calls Try.prog 27 #[pV g] w fun e w' => ∃ v, e = .returned (pV v) ∧ AtB w' (backT t) (pV v) ∧ Below w.heap.size w w' := by
  have H := Lib.hid h
  clear h
  go_enter Try.func27, Try.ntmps27
  go_wp2
  go_ret
  exact ⟨_, rfl, at_st (stC_new w 8 0 [] _ _ _ _ _ _) (by simp) (at_nil _ _) (H.out.below (below_alloc _ _)) (at_nil _ _) (sl_nil _ _) (sl_nil _ _), below_alloc _ _⟩
theorem function_any {ps : List (List UInt8)} {b : List Tree} {vp vb : Value} (w : World) (hp : SlB w (treeL (ps.map .tx)) vp) (hcap : ∀ A c, vp = .slice A (lenT (treeL (ps.map .tx))) c → lenT (treeL (ps.map .tx)) ≤ c) (hb : SlB w (treeL b) vb) : Calls Try.prog 30 #[vp, vb] w fun e w' => ∃ v, e = .returned (pV v) ∧ AtB w' (funT ps b) (pV v) ∧ Below w.heap.size w w' := by
  have HP := Lib.hid hp
  have HB := Lib.hid hb
  have HC := Lib.hid hcap
  obtain ⟨A, c, rfl, _⟩ := hp
  obtain ⟨A2, c2, rfl, _⟩ := hb
  clear hcap
  go_enter Try.func30, Try.ntmps30
  go_wp2
  go_ret
  exact ⟨_, rfl, at_ex (exC_new w 9 0 0 [] _ _ _ _ _ _ _) (by simp) (at_nil _ _) (at_nil _ _) (sl_nil _ _) (sl_nil _ _) (HP.out.below (below_alloc _ _)) (HB.out.below (below_alloc _ _)) HC.out, below_alloc _ _⟩
def worksT : Tree := treeL [locT [97], backT (funT [[120]] [backT (nmT [97]), backT (nmT [120]), backT (nmT [103])])]
theorem works_res : resolveS worksT = .ok ⟨[⟨[⟨[97], 0, true⟩], [0], [], []⟩, ⟨[⟨[120], 0, false⟩], [0], [⟨2, 0, none⟩, ⟨1, 0, some 0⟩, ⟨3, 0, none⟩], [⟨true, 0, [97]⟩]⟩], [], 9⟩ := by kernel_rfl
end Go.Proofs.Ytlbbbfmnghcdnaa
