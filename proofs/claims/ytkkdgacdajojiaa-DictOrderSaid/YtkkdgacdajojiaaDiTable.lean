/- Changes that come in; table: what becomes of a table. -/
import Derived.Test.YtkkdgacdajojiaaBase
import Derived.Test.YtkkdgacdajojiaaDiFold
import Derived.Maps.AppendAt
import Derived.Laws.AppendOwnNone
import Derived.Deep.Slices
namespace Go.Proofs.Ytkkdgacdajojiaa
set_option maxRecDepth 20000
set_option maxRecDepth 20000
open Go.RowKit Go.Maps Go.Sort Go.BigFrame

/-- The slice's cells hold the changes l. -/
def ChgAt (w : World) (A : Option Addr) (l : List Chg) : Prop :=
  ∀ i p, l[i]? = some p → wfP p.1 ∧ wfP p.2 ∧ ∃ ad, A = some ad ∧ ad.block < w.heap.size ∧ w.cell? (ad.add (i * 4)) = some (iV p.1.1) ∧ w.cell? ((ad.add (i * 4)).add 1) = some (iV p.1.2) ∧ w.cell? ((ad.add (i * 4)).add 2) = some (iV p.2.1) ∧ w.cell? ((ad.add (i * 4)).add 3) = some (iV p.2.2)
theorem ChgAt.below {w w' : World} {A : Option Addr} {l : List Chg} (h : ChgAt w A l) {n : Nat} (hn : w.heap.size ≤ n) (hb : Below n w w') : ChgAt w' A l := by
  intro i p hp
  obtain ⟨x1, x2, ad, e, hl, h0, h1, h2, h3⟩ := h i p hp
  have hb := hb.mono hn
  have k : ∀ j, ((ad.add (i * 4)).add j).block < w.heap.size := fun j => by rw [Go.ChangeShapes.block_add, Go.ChangeShapes.block_add]; exact hl
  exact ⟨x1, x2, ad, e, Nat.lt_of_lt_of_le hl hb.size, (hb.cell (by rw [Go.ChangeShapes.block_add]; exact hl)).trans h0, (hb.cell (k 1)).trans h1, (hb.cell (k 2)).trans h2, (hb.cell (k 3)).trans h3⟩
theorem ChgAt.take {w : World} {A : Option Addr} {l : List Chg} (h : ChgAt w A l) (n : Nat) : ChgAt w A (l.take n) := fun i p hp => by
  have hi : i < (l.take n).length := (List.getElem?_eq_some_iff.1 hp).1
  rw [List.length_take] at hi
  rw [List.getElem?_take_of_lt (by omega)] at hp
  exact h i p hp
/-- Behind an append to the call's own list: another row stays. -/
theorem wpList_append_vals {ops : Array Oper} {rest : List Oper} {o : Oper} {a : Act} {w : World} {Q : Exit → Act → World → Prop} (hgd : o.guard = none) (s x : Operand)
    (ho : o.op = .call { callee := .builtin .append, args := #[s, x], argTypes := #[22, 22] }) (base : Nat) (v : Value) (L : List VV) (hs : a.eval s = v) (hown : OwnV w base v L)
    (vx : Value) (G : List VV) (hx : a.eval x = vx) (hG : SlV w vx G) (hlen : L.length + G.length ≤ 1073741824) (hbase : base ≤ w.heap.size)
    (h : ∀ v' w', Hid (OwnV w' base v' (L ++ G)) → Hid (w.grownBy w' v.ownBlock) → (v'.ownBlock = v.ownBlock ∨ v'.ownBlock = some w.heap.size) → wpList Try.prog ops Q rest (a.put o.dst v') w') : wpList Try.prog ops Q (o :: rest) a w := by
  obtain ⟨i0, hi0, hz0, hz1, hz2⟩ := info_parts val_info
  rcases hG with ⟨rfl, rfl⟩ | ⟨g, off, c, rfl, hR⟩
  · refine wpList_append_own_none hgd s x 22 ho base 24 i0 2 Try.underlying22 hi0 v L.length _ hs hown.1 hx ?_
    exact h v w (Lib.hid (by simpa using hown)) ⟨rfl, rfl, rfl, Nat.le_refl _, fun _ _ _ => rfl⟩ (.inl rfl)
  · refine wpList_append_own_at _ hgd s x 22 ho base 24 i0 _ 2 16 Try.underlying22 hi0 hz0 hz1 hz2 rfl (by decide) v L.length _ hs hown.1 ⟨g, off, none⟩ G.length c (cellsV G) hx (by rw [cellsV_len]; omega) (news_row hR) (fun u hu => cellsV_one G u hu) (by unfold maxLen; omega) (by omega) hbase ?_
    intro v' w' h1 h2 _ h4
    refine h v' w' ⟨?_, fun y hy => ?_⟩ h2 h4
    · rw [cellsV_append, List.length_append]; exact h1
    · rcases List.mem_append.1 hy with hy | hy
      · exact hown.2 y hy
      · exact hR.wf y hy
theorem chg_cells {w : World} {ad : Addr} {j : Nat} {u1 u2 u3 : Value} (h1 : w.cell? ((ad.add (j * 4)).add 1) = some u1) (h2 : w.cell? ((ad.add (j * 4)).add 2) = some u2) (h3 : w.cell? ((ad.add (j * 4)).add 3) = some u3) :
    w.cell? ⟨(ad.add (j * 4)).block, (ad.add (j * 4)).off + 1, none⟩ = some u1 ∧ w.cell? ⟨(ad.add (j * 4)).block, (ad.add (j * 4)).off + 2, none⟩ = some u2 ∧ w.cell? ⟨(ad.add (j * 4)).block, (ad.add (j * 4)).off + 2 + 1, none⟩ = some u3 ∧ w.cell? ⟨(ad.add (j * 4)).block, (ad.add (j * 4)).off + 3, none⟩ = some u3 := by
  have e : ∀ (a : Addr) (k : Nat), k ≠ 0 → a.add k = ⟨a.block, a.off + k, none⟩ := fun a k hk => by unfold Addr.add; rw [if_neg hk]
  rw [e _ _ (by decide)] at h1 h2 h3
  exact ⟨h1, h2, h3, h3⟩
end Go.Proofs.Ytkkdgacdajojiaa
