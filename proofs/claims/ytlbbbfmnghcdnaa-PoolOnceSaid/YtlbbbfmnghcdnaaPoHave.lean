/- A slice of numbers of the law's own beside a pool; what of the pool's blocks it leaves; bytes that come in. -/
import Derived.Test.YtlbbbfmnghcdnaaPoNone
namespace Go.Proofs.Ytlbbbfmnghcdnaa
set_option maxRecDepth 20000
open Go.RowKit Go.Maps

/-- A slice of bytes. -/
def BySl (w : World) (v : Value) (l : List Nat) : Prop :=
  ∃ A c, v = .slice A l.length c ∧ l.length ≤ c ∧ c ≤ 9223372036854775807 ∧ (l ≠ [] → ∃ a, A = some a ∧ a.block < w.heap.size ∧ ∀ (i x : Nat), l[i]? = some x → w.cell? (a.add i) = some (.int .u8 x) ∧ x ≤ 255)
theorem block_of_addB (a : Addr) (i : Nat) : (a.add i).block = a.block := by unfold Addr.add; split <;> rfl
def HaveAt (w : World) (lo : Nat) (v : Value) (hs : List Nat) : Prop := w.ownsRow lo 3 1 v hs.length (hs.map fun x => nV (x : Nat))
theorem have_new (w : World) (lo : Nat) : HaveAt w lo (.slice none 0 0) [] := ⟨rfl, .inl ⟨rfl, rfl⟩⟩
theorem have_form {w : World} {lo : Nat} {v : Value} {hs : List Nat} (h : HaveAt w lo v hs) : (v = .slice none 0 0 ∧ hs = []) ∨ ∃ g cap cur, v = .slice (some ⟨g, 0, none⟩) hs.length cap ∧ lo ≤ g ∧ w.heap[g]? = some (.cells cur 3 (0, 0)) ∧ hs.length ≤ cap ∧ cap ≤ maxLen ∧ cur.size = cap ∧ cur.toList.take hs.length = hs.map fun x => nV (x : Nat) := by
  rcases h.2 with ⟨h1, h2⟩ | ⟨g, cap, cur, rfl, hb, hg, hn, hm, h5, h6⟩
  · exact .inl ⟨h1, List.length_eq_zero_iff.1 h2⟩
  · refine .inr ⟨g, cap, cur, rfl, hb, hg, hn, hm, by omega, ?_⟩
    rwa [Nat.mul_one] at h6
theorem have_of {w : World} {lo g cap : Nat} {cur : List Value} {hs : List Nat} (hlo : lo ≤ g) (hg : w.heap[g]? = some (.cells cur.toArray 3 (0, 0))) (hn : hs.length ≤ cap) (hm : cap ≤ maxLen) (hc : cur.length = cap) (ht : cur.take hs.length = hs.map fun x => nV (x : Nat)) : HaveAt w lo (.slice (some ⟨g, 0, none⟩) hs.length cap) hs :=
  ⟨by simp, .inr ⟨g, cap, cur.toArray, rfl, hlo, hg, hn, hm, by simp; omega, by rw [Nat.mul_one]; simpa using ht⟩⟩
theorem have_slice {w : World} {lo : Nat} {v : Value} {hs : List Nat} (h : HaveAt w lo v hs) : ∃ A c, v = .slice A hs.length c ∧ hs.length ≤ c ∧ c ≤ maxLen ∧ (hs ≠ [] → ∃ g, A = some ⟨g, 0, none⟩ ∧ ∀ (i x : Nat), hs[i]? = some x → w.cell? ⟨g, i, none⟩ = some (nV (x : Nat))) := by
  rcases have_form h with ⟨rfl, rfl⟩ | ⟨g, cap, cur, rfl, _, hg, hn, hm, hc, ht⟩
  · exact ⟨_, _, rfl, Nat.le_refl _, Nat.zero_le _, fun h => absurd rfl h⟩
  · refine ⟨_, _, rfl, hn, hm, fun _ => ⟨g, rfl, fun i x hx => ?_⟩⟩
    have hi : i < hs.length := (List.getElem?_eq_some_iff.1 hx).1
    have : cur.toList[i]? = some (nV (x : Nat)) := by
      rw [← List.getElem?_take_of_lt hi, ht, List.getElem?_map, hx]; rfl
    simp [World.cell?, hg] at this ⊢
    exact this
theorem have_cells {w : World} {lo n c : Nat} {A : Option Addr} {hs : List Nat} (h : HaveAt w lo (.slice A n c) hs) (hne : hs ≠ []) : ∃ g, A = some ⟨g, 0, none⟩ ∧ ∀ (i x : Nat), hs[i]? = some x → w.cell? ⟨g, i, none⟩ = some (nV (x : Nat)) := by
  obtain ⟨A', c', e, _, _, h4⟩ := have_slice h
  injection e with e1 _ e3
  rw [e1]
  exact h4 hne
theorem have_cap {w : World} {lo n c : Nat} {A : Option Addr} {hs : List Nat} (h : HaveAt w lo (.slice A n c) hs) : hs.length ≤ c ∧ c ≤ 9223372036854775807 := by
  obtain ⟨A', c', e, h1, h2, _⟩ := have_slice h
  injection e with _ _ e3
  unfold maxLen at h2
  omega
theorem own_lo {w : World} {lo : Nat} {v : Value} {hs : List Nat} (h : HaveAt w lo v hs) (i : Nat) (hi : v.ownBlock = some i) : lo ≤ i := by
  rcases have_form h with ⟨rfl, _⟩ | ⟨g, cap, cur, rfl, h1, _⟩
  · simp [Value.ownBlock] at hi
  · simp [Value.ownBlock] at hi; omega
theorem HaveAt.keepO {w w' : World} {lo : Nat} {v : Value} {hs : List Nat} (h : HaveAt w lo v hs) (hk : KeepO w w') : HaveAt w' lo v hs := by
  rcases h.2 with h2 | ⟨g, cap, cur, rfl, hb, hg, r⟩
  · exact ⟨h.1, .inl h2⟩
  · exact ⟨h.1, .inr ⟨g, cap, cur, rfl, hb, hk g _ hg ⟨by decide, by decide, by decide⟩, r⟩⟩
theorem HaveAt.below {w w' : World} {lo : Nat} {v : Value} {hs : List Nat} (h : HaveAt w lo v hs) (hb : Below w.heap.size w w') : HaveAt w' lo v hs := h.keepO (KeepO.below hb)
def IntRow : Obj → Prop
  | .cells _ T _ => T = 3
  | _ => False
/-- What is no row of ints is as it was. -/
def KeepP (w w' : World) : Prop := ∀ (k : Nat) (o : Obj), w.heap[k]? = some o → ¬ IntRow o → w'.heap[k]? = some o
theorem keepP_grown {w w' : World} {lo : Nat} {v : Value} {hs : List Nat} (h : HaveAt w lo v hs) (hg : w.grownBy w' v.ownBlock) : KeepP w w' := fun k o ho hO => by
  refine (hg.block k (mem_block_lt ho) ?_).trans ho
  rcases have_form h with ⟨rfl, _⟩ | ⟨g, cap, cur, rfl, _, h1, _⟩
  · simp [Value.ownBlock]
  · intro e
    simp [Value.ownBlock] at e
    subst e
    rw [h1] at ho; injection ho with ho; subst ho; exact hO rfl
theorem KeepP.below {w w' : World} (h : Below w.heap.size w w') : KeepP w w' := fun i _ ho _ => (h.block i (mem_block_lt ho)).trans ho
theorem KeepP.trans {a b c : World} (h : KeepP a b) (k : KeepP b c) : KeepP a c := fun i o ho hO => k i o (h i o ho hO) hO
theorem PoolAt.keepP {w w' : World} {lo ps k : Nat} {T : List Nat} (h : PoolAt w lo ps k T) (hk : KeepP w w') : PoolAt w' lo ps k T := by
  obtain ⟨bx, mb, g, F, off, c, hh, hl⟩ := h
  obtain ⟨es, cl, hm⟩ := hh.map.form
  obtain ⟨cur, hr, _⟩ := hh.row
  refine ⟨bx, mb, g, F, off, c, hh.keep fun i hi => ?_, hl⟩
  rcases hi with rfl | rfl | rfl | rfl
  · rw [hk _ _ hh.self (by intro h; cases h), hh.self]
  · rw [hk _ _ hh.var (by intro h; cases h), hh.var]
  · rw [hk _ _ hm (fun h => h), hm]
  · rw [hk _ _ hr (by intro h; cases h), hr]
theorem below_undrew {a b : World} (h : Below a.drew.heap.size a.drew b) : Below a.heap.size a b := ⟨h.os, h.tape, h.output, h.size, h.block⟩
theorem PoolAt.drew {w : World} {lo ps k : Nat} {T : List Nat} (h : PoolAt w lo ps k T) : PoolAt w.drew lo ps k T := h.below (below_drew1 (Below.refl _ _))
theorem nodup_len : ∀ (A B : List Nat), A.Nodup → (∀ x ∈ A, x ∈ B) → A.length ≤ B.length
  | [], B, _, _ => Nat.zero_le _
  | a :: A, B, hn, h => by
    have ha : a ∈ B := h a (by simp)
    have hn2 := List.nodup_cons.1 hn
    have := nodup_len A (B.erase a) hn2.2 (fun x hx => (List.mem_erase_of_ne (by rintro rfl; exact hn2.1 hx)).2 (h x (by simp [hx])))
    rw [List.length_erase_of_mem ha] at this
    have hp : 0 < B.length := List.length_pos_iff.2 (by rintro rfl; simp at ha)
    simp only [List.length_cons]; omega
theorem least_le {T : List Nat} {n : Nat} (h : Least T n) : n ≤ T.length + 1 := by
  have := nodup_len (List.range' 1 (n - 1)) T List.nodup_range' (fun m hm => by
    rw [List.mem_range'_1] at hm
    exact h.2.2 m hm.1 (by omega))
  rw [List.length_range'] at this
  omega
theorem same_len {T hs : List Nat} (h1 : T.Nodup) (h2 : hs.Nodup) (h : ∀ x, x ∈ T ↔ x ∈ hs) : T.length = hs.length := ((List.perm_ext_iff_of_nodup h1 h2).2 h).length_eq
theorem mem_eraseIdx_nodup {hs : List Nat} (h : hs.Nodup) {q n : Nat} (hq : hs[q]? = some n) (x : Nat) : x ∈ hs.eraseIdx q ↔ x ≠ n ∧ x ∈ hs := by
  have hlt : q < hs.length := (List.getElem?_eq_some_iff.1 hq).1
  have hv : hs[q] = n := (List.getElem?_eq_some_iff.1 hq).2
  rw [List.mem_eraseIdx_iff_getElem?]
  constructor
  · rintro ⟨i, hi, hx⟩
    refine ⟨?_, List.mem_of_getElem? hx⟩
    rintro rfl
    have hil : i < hs.length := (List.getElem?_eq_some_iff.1 hx).1
    have hiv : hs[i] = hs[q] := by rw [hv]; exact (List.getElem?_eq_some_iff.1 hx).2
    exact hi ((List.getElem_inj h).1 hiv)
  · rintro ⟨hne, hm⟩
    obtain ⟨i, hi, rfl⟩ := List.getElem_of_mem hm
    refine ⟨i, ?_, List.getElem?_eq_getElem hi⟩
    rintro rfl
    exact hne hv
theorem int_infoP : (Try.prog.info? 3).map (fun i => (i.zero, i.size, i.bytes)) = some (some (nV 0), 1, 8) := by kernel_rfl
theorem int_sizeP : (Try.prog.info? 3).map (·.size) = some 1 := by kernel_rfl
/-- append(have[:q], have[q+1:]...): as one step of a region. -/
theorem step_delete {ops : Array Oper} {o : Oper} {a : Act} {w : World} {K : Act → World → Prop} {Q : Exit → Act → World → Prop} {E : Prop} (hgd : o.guard = none) (d s : Operand)
    (ho : o.op = .call { callee := .builtin .append, args := #[d, s], argTypes := #[25, 25] }) (lo g cap q : Nat) (hs : List Nat) (hh : HaveAt w lo (.slice (some ⟨g, 0, none⟩) hs.length cap) hs) (hq : q < hs.length)
    (ad : Addr) (m c2 : Nat) (hm : m = hs.length - (q + 1)) (had : 0 < m → ad = ⟨g, q + 1, none⟩) (hd : a.eval d = .slice (some ⟨g, 0, none⟩) q cap) (hx : a.eval s = .slice (some ad) m c2)
    (h : ∀ w', Hid (HaveAt w' lo (.slice (some ⟨g, 0, none⟩) (hs.length - 1) cap) (hs.eraseIdx q)) → Hid (KeepP w w') → Hid (w.grownBy w' (some g)) → K (a.put o.dst (.slice (some ⟨g, 0, none⟩) (hs.length - 1) cap)) w') :
    if Region.wanted o (yielded ops a.tmps) = true then Oper.wp Try.prog o a w K Q else E := by
  rcases have_form hh with ⟨h1, _⟩ | ⟨g', cap', cur, h1, h2, h3, h4, h5, h6, h7⟩
  · cases h1
  · injection h1 with h1 _ h8
    injection h1 with h1
    injection h1 with h1
    subst h1; subst h8
    have hcur : w.heap[g]? = some (.cells cur.toList.toArray 3 (0, 0)) := by simpa using h3
    have hnl : ((hs.drop (q + 1)).map fun x => nV (x : Nat)).length = m * 1 := by simp; omega
    have hr := run_append_row (P := Try.prog) w 25 o.type 3 1 Try.underlying25 int_sizeP g 0 q cap ad m c2 cur.toList _ hcur ((hs.drop (q + 1)).map fun x => nV (x : Nat)) hnl (fun j u hj => by
        have hj2 : j < ((hs.drop (q + 1)).map fun x => nV (x : Nat)).length := (List.getElem?_eq_some_iff.1 hj).1
        rw [had (by omega)]
        rw [Addr.add_lit]
        rw [List.getElem?_map, List.getElem?_drop] at hj
        have hlt : q + 1 + j < hs.length := by omega
        have : cur.toList[q + 1 + j]? = some u := by
          rw [← List.getElem?_take_of_lt hlt, h7, List.getElem?_map]; exact hj
        simp [World.cell?, h3] at this ⊢
        exact this) (fun u hu => by obtain ⟨x, _, rfl⟩ := List.mem_map.1 hu; rfl) (by omega) (by rw [hnl]; simp; omega)
    rw [show q + m = hs.length - 1 by omega, Nat.zero_add, Nat.mul_one] at hr
    have hw : Region.wanted o (yielded ops a.tmps) = true := by simp [Region.wanted, hgd]
    rw [if_pos hw]
    unfold Oper.wp execOp
    simp only [ho, resolve, invoke, builtin, Sem.run_bind, Sem.run_pure, Result.andThen_ok, List.map_toArray, List.map_cons, List.map_nil, hd, hx, hr]
    have hfit : q + ((hs.drop (q + 1)).map fun x => nV (x : Nat)).length ≤ cur.toList.length := by rw [hnl]; simp; omega
    refine h _ (show HaveAt _ _ _ _ from ?_) (show KeepP _ _ from ?_) (show World.grownBy _ _ _ from grown_setRow w g _)
    · have hl : (hs.eraseIdx q).length = hs.length - 1 := List.length_eraseIdx_of_lt hq
      have := have_of (w := w.setRow g (splice cur.toList q ((hs.drop (q + 1)).map fun x => nV (x : Nat))).toArray) (hs := hs.eraseIdx q) (cap := cap) h2 (setRow_heap w g _ _ _ _ h3) (by omega) h5 (by rw [length_splice _ _ _ hfit]; simpa using h6) (by
        rw [hl]
        apply List.ext_getElem?
        intro j
        rw [List.getElem?_take, List.getElem?_map, List.getElem?_eraseIdx]
        by_cases hj : j < hs.length - 1
        · rw [if_pos hj, splice_get _ _ _ hfit, hnl]
          by_cases h9 : j < q
          · rw [if_neg (by omega), if_pos h9, ← List.getElem?_take_of_lt (show j < hs.length by omega), h7, List.getElem?_map]
          · rw [if_pos (by omega), if_neg h9, List.getElem?_map, List.getElem?_drop]
            congr 2; omega
        · rw [if_neg hj]
          split
          · rw [List.getElem?_eq_none (by omega)]; rfl
          · rw [List.getElem?_eq_none (by omega)]; rfl)
      rwa [hl] at this
    · intro k o' ho' hO
      refine ((grown_setRow w g _).block k (mem_block_lt ho') ?_).trans ho'
      intro e; injection e with e; subst e
      rw [h3] at ho'; injection ho' with ho'; subst ho'; exact hO rfl
end Go.Proofs.Ytlbbbfmnghcdnaa
