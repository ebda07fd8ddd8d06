/- Changes that come in; table: what becomes of a table. -/
import Derived.Test.YtjlakolgaableaaRDiFold
import Derived.Maps.AppendAt
import Derived.Laws.AppendOwnNone
import Derived.Deep.Slices
namespace Go.Proofs.YtjlakolgaableaaR
set_option maxRecDepth 20000
open Go.RowKit Go.Maps Go.Sort Go.BigFrame

/-- The slice's cells hold the changes l. -/
def ChgAt (w : World) (A : Option Addr) (l : List Chg) : Prop :=
  ∀ i p, l[i]? = some p → wfP p.1 ∧ wfP p.2 ∧ ∃ ad, A = some ad ∧ ad.block < w.heap.size ∧ w.cell? (ad.add (i * 4)) = some (iV p.1.1) ∧ w.cell? ((ad.add (i * 4)).add 1) = some (iV p.1.2) ∧ w.cell? ((ad.add (i * 4)).add 2) = some (iV p.2.1) ∧ w.cell? ((ad.add (i * 4)).add 3) = some (iV p.2.2)
theorem ChgAt.below {w w' : World} {A : Option Addr} {l : List Chg} (h : ChgAt w A l) {n : Nat} (hn : w.heap.size ≤ n) (hb : Below n w w') : ChgAt w' A l := by
  intro i p hp
  obtain ⟨x1, x2, ad, e, hl, h0, h1, h2, h3⟩ := h i p hp
  have hb := hb.mono hn
  have k : ∀ j, ((ad.add (i * 4)).add j).block < w.heap.size := fun j => by rw [Go.ChangeShapes.block_add, Go.ChangeShapes.block_add]; exact hl
  exact ⟨x1, x2, ad, e, Nat.lt_of_lt_of_le hl hb.size, (hb.cell (by rw [Go.ChangeShapes.block_add]; exact hl)).trans h0, (hb.cell (k 1)).trans h1, (hb.cell (k 2)).trans h2, (hb.cell (k 3)).trans h3⟩
theorem ChgAt.take {w : World} {A : Option Addr} {l : List Chg} (h : ChgAt w A l) (n : Nat) : ChgAt w A (l.take n) := fun i p hp => by
  have hi : i < (l.take n).length := (List.getElem?_eq_some_iff.1 hp).1
  rw [List.length_take] at hi
  rw [List.getElem?_take_of_lt (by omega)] at hp
  exact h i p hp
/-- Behind an append to the call's own list: another row stays. -/
theorem wpList_append_vals {ops : Array Oper} {rest : List Oper} {o : Oper} {a : Act} {w : World} {Q : Exit → Act → World → Prop} (hgd : o.guard = none) (s x : Operand)
    (ho : o.op = .call { callee := .builtin .append, args := #[s, x], argTypes := #[22, 22] }) (base : Nat) (v : Value) (L : List VV) (hs : a.eval s = v) (hown : OwnV w base v L)
    (vx : Value) (G : List VV) (hx : a.eval x = vx) (hG : SlV w vx G) (hlen : L.length + G.length ≤ 1073741824) (hbase : base ≤ w.heap.size)
    (h : ∀ v' w', Hid (OwnV w' base v' (L ++ G)) → Hid (w.grownBy w' v.ownBlock) → (v'.ownBlock = v.ownBlock ∨ v'.ownBlock = some w.heap.size) → wpList Try.prog ops Q rest (a.put o.dst v') w') : wpList Try.prog ops Q (o :: rest) a w := by
  obtain ⟨i0, hi0, hz0, hz1, hz2⟩ := info_parts val_info
  rcases hG with ⟨rfl, rfl⟩ | ⟨g, off, c, rfl, hR⟩
  · refine wpList_append_own_none hgd s x 22 ho base 24 i0 2 Try.underlying22 hi0 v L.length _ hs hown.1 hx ?_
    exact h v w (Lib.hid (by simpa using hown)) ⟨rfl, rfl, rfl, Nat.le_refl _, fun _ _ _ => rfl⟩ (.inl rfl)
  · refine wpList_append_own_at _ hgd s x 22 ho base 24 i0 _ 2 16 Try.underlying22 hi0 hz0 hz1 hz2 rfl (by decide) v L.length _ hs hown.1 ⟨g, off, none⟩ G.length c (cellsV G) hx (by rw [cellsV_len]; omega) (news_row hR) (fun u hu => cellsV_one G u hu) (by unfold maxLen; omega) (by omega) hbase ?_
    intro v' w' h1 h2 _ h4
    refine h v' w' ⟨?_, fun y hy => ?_⟩ h2 h4
    · rw [cellsV_append, List.length_append]; exact h1
    · rcases List.mem_append.1 hy with hy | hy
      · exact hown.2 y hy
      · exact hR.wf y hy
theorem chg_cells {w : World} {ad : Addr} {j : Nat} {u1 u2 u3 : Value} (h1 : w.cell? ((ad.add (j * 4)).add 1) = some u1) (h2 : w.cell? ((ad.add (j * 4)).add 2) = some u2) (h3 : w.cell? ((ad.add (j * 4)).add 3) = some u3) :
    w.cell? ⟨(ad.add (j * 4)).block, (ad.add (j * 4)).off + 1, none⟩ = some u1 ∧ w.cell? ⟨(ad.add (j * 4)).block, (ad.add (j * 4)).off + 2, none⟩ = some u2 ∧ w.cell? ⟨(ad.add (j * 4)).block, (ad.add (j * 4)).off + 2 + 1, none⟩ = some u3 ∧ w.cell? ⟨(ad.add (j * 4)).block, (ad.add (j * 4)).off + 3, none⟩ = some u3 := by
  have e : ∀ (a : Addr) (k : Nat), k ≠ 0 → a.add k = ⟨a.block, a.off + k, none⟩ := fun a k hk => by unfold Addr.add; rw [if_neg hk]
  rw [e _ _ (by decide)] at h1 h2 h3
  exact ⟨h1, h2, h3, h3⟩
set_option maxHeartbeats 8000000 in
theorem table_any {w : World} {A : Option Addr} {c : Nat} {l : List Chg} (h : ChgAt w A l) (hl : l.length ≤ 40) :
    Calls Try.prog 24 #[.slice A l.length c] w fun e w' => ∃ g off c' vo, e = .returned (.tuple #[.slice (some ⟨g, off, none⟩) (tabL l).1.length c', vo]) ∧ RowV w' g off c' (tabL l).1 ∧ OwnV w' w.heap.size vo (tabL l).2 ∧ Below w.heap.size w w' := by
  have H : Hid (∀ W, Below w.heap.size w W → ChgAt W A l) := fun W hb => h.below (Nat.le_refl _) hb
  obtain ⟨n, hn⟩ : ∃ n, n = l.length := ⟨_, rfl⟩
  rw [← hn] at hl ⊢
  have HN := Lib.hid hn
  clear h hn
  go_enter Try.func24, Try.ntmps24
  go_wp2_with (go_at_call 17; refine (New_any _).mono ?_; rintro e w1 ⟨g0, o0, c0, rfl, hR0, hg0, hb⟩; have R0 := Lib.hid hR0; have B0 := Lib.hid hb; clear hb hR0 hg0)
  go_loopg [4, 5, 6] (n + 1) (fun k s s5 i wr => ∃ (j g off c' m : Nat) (v : Value), v = s5 ∧ k + j = n + 1 ∧ j ≤ n ∧ i = Value.int .i64 (j : Int) ∧ s = .slice (some ⟨g, off, none⟩) m c' ∧ m = (tabL (l.take j)).1.length ∧ Hid (RowV wr g off c' (tabL (l.take j)).1) ∧ Hid (OwnV wr w.heap.size v (tabL (l.take j)).2) ∧ Hid (v.ownBlock ≠ some g) ∧ Hid (Below w.heap.size w wr))
  case atStart => exact ⟨0, g0, o0, c0, 2, _, rfl, rfl, Nat.zero_le _, rfl, rfl, rfl, R0.out, OwnV.nil _ _, (fun e => by simp [Value.ownBlock] at e), B0.out⟩
  case round =>
    obtain ⟨j, g, off, c', m, v, rfl, hkj, hj, rfl, rfl, hm, R, O, NE, B⟩ := hrel
    obtain ⟨t, ht⟩ := tab_any (l.take j)
    have hlt' : (l.take j).length ≤ j := List.length_take_le _ _
    have HT := Lib.hid ht
    have HM := Lib.hid hm
    by_cases hlt : j < n
    · obtain ⟨p, hp⟩ : ∃ p, l[j]? = some p := ⟨_, List.getElem?_eq_getElem (by rw [← HN.out]; exact hlt)⟩
      obtain ⟨hw1, hw2, ad, e, hbl, d0, d1, d2, d3⟩ := H.out wr B.out j p hp
      subst e
      obtain ⟨d1, d2, d3, d4⟩ := chg_cells d1 d2 d3
      have E := Lib.hid (tabL_snoc hp)
      obtain ⟨⟨a, b⟩, x1, x2⟩ := p
      have HP : Hid (∀ W, Below wr.heap.size wr W → Calls Try.prog 20 #[.slice (some ⟨g, off, none⟩) m c', .agg #[.int .i64 a, .int .i64 b], .agg #[.int .i64 x1, .int .i64 x2]] W (GivesPut (putL (tabL (l.take j)).1 (a, b) (x1, x2)) W)) := fun W hb => by
        have h1 := HT.out.lay
        have h2 := HT.out.small
        have h3 : (tabL (l.take j)).1.length = 2 + t.arr.length + 2 * t.prs.length := by rw [h1]; simp [layT, flatQ_len]; omega
        exact Put_any (.inr ⟨g, off, c', by rw [HM.out], R.out.keep (hb.block _ R.out.lt), by omega⟩) (by omega) hw1 hw2
      have hk0 := HT.out
      cases hok : okC ((a, b), (x1, x2)) with
      | true =>
        obtain ⟨NX, GN, hE1⟩ : ∃ NX GN, putL (tabL (l.take j)).1 (a, b) (x1, x2) = (some (NX, GN), 0) := ⟨_, _, by rw [hk0.lay]; exact putL_ok hk0.good hok⟩
        have E1 := Lib.hid hE1
        have E2 : Hid (tabL (l.take (j + 1)) = (NX, (tabL (l.take j)).2 ++ GN)) := Lib.hid (by rw [E.out]; unfold stepL; simp only; rw [E1.out])
        have LN : Hid (GN.length ≤ 200 ∧ (tabL (l.take j)).2.length ≤ 200) := by
          obtain ⟨t2, ht2⟩ := tab_any (l.take (j + 1))
          have h1 := ht2.out
          have h2 := List.length_take_le (j + 1) l
          rw [E2.out] at h1
          simp only [List.length_append] at h1
          exact ⟨by omega, by omega⟩
        clear hok hE1 hk0 hp hw1 hw2 hm ht hlt'
        go_upto_region 6 with fail
        go_cut [7, 8, 9] (fun s7 s8 s9 wx => ∃ (g1 o1 c1 : Nat) (vg : Value), vg = s8 ∧ s7 = Value.slice (some ⟨g1, o1, none⟩) NX.length c1 ∧ s9 = Value.int .i64 0 ∧ Hid (RowV wx g1 o1 c1 NX ∧ wr.heap.size ≤ g1 ∧ OwnV wx wr.heap.size vg GN ∧ Below wr.heap.size wr wx))
        case first =>
          go_region_law (go_simp; go_at_call 20; (with_reducible refine (HP.out _ ((Below.refl _ _).drew)).mono ?_); rintro e w5 ⟨hb, hP⟩; rw [E1.out] at hP; obtain ⟨g1, o1, c1, vg, rfl, hR1, hg1, hO1⟩ := hP; have R1 := Lib.hid hR1; have G1 : Hid (wr.heap.size ≤ g1) := (by exact hg1); have O1 : Hid (OwnV w5 wr.heap.size vg GN) := (by exact hO1); have B5 : Hid (Below wr.heap.size wr w5) := (by exact ⟨hb.os, hb.tape, hb.output, hb.size, hb.block⟩); clear hb hR1 hg1 hO1)
          all_goals
            go_wp2_with fail
            go_meet
            exact ⟨g1, o1, c1, _, rfl, rfl, rfl, R1.out, G1.out, O1.out, B5.out⟩
        case rest =>
          obtain ⟨g1, o1, c1, vg, rfl, rfl, rfl, HC⟩ := hcut
          have B6 : Hid (Below w.heap.size w wc) := B.out.trans (HC.out.2.2.2.mono B.out.size)
          have OW : Hid (OwnV wc w.heap.size v (tabL (l.take j)).2) := O.out.below HC.out.2.2.2
          have LO : Hid (∀ k, v.ownBlock = some k → w.heap.size ≤ k ∧ k < wr.heap.size) := fun k hk => O.out.1.lt k hk
          clear d0 d1 d2 d3 d4 hbl
          go_wp2_with (at_builtin; refine wpList_append_vals rfl (.tmp 40) (.tmp 41) rfl w.heap.size _ _ rfl OW.out _ GN rfl HC.out.2.2.1.sl (by have := LN.out; omega) B6.out.size ?_; intro v7 w7 hO7 hG7 hat)
          have N1 : Hid (v.ownBlock ≠ some g1) := fun e => by have := (LO.out _ e).2; have := HC.out.2.1; omega
          have N7 : Hid (v7.ownBlock ≠ some g1) := fun e => by
            rcases hat with h1 | h1
            · exact N1.out (h1.symm.trans e)
            · rw [h1] at e
              injection e with e
              have := HC.out.1.lt
              omega
          have R7 : Hid (RowV w7 g1 o1 c1 NX) := HC.out.1.keep (hG7.out.block _ HC.out.1.lt (Ne.symm N1.out))
          have B7 : Hid (Below w.heap.size w w7) := B6.out.grown hG7.out B6.out.size fun k hk => (LO.out k hk).1
          go_roundg (gk - 1)
          case measure => omega
          case rel => exact ⟨j + 1, g1, o1, c1, NX.length, _, rfl, by omega, by omega, congrArg (Value.int .i64) (by omega), rfl, by rw [E2.out], by rw [E2.out]; exact R7, by rw [E2.out]; exact hO7, N7, B7⟩
      | false =>
        obtain ⟨q, hE1, hq⟩ := putL_not hk0.good hok
        rw [← hk0.lay] at hE1
        have E1 := Lib.hid hE1
        have E2 : Hid (tabL (l.take (j + 1)) = tabL (l.take j)) := Lib.hid (by rw [E.out]; unfold stepL; simp only; rw [E1.out])
        have zq : (q == 0) = false := not_eq (by rcases hq with rfl | rfl <;> decide)
        clear hok hE1 hk0 hp hw1 hw2 hm ht hlt' hq
        go_upto_region 6 with fail
        go_cut [7, 8, 9] (fun s7 s8 s9 wx => s9 = Value.int .i64 q ∧ Hid (Below wr.heap.size wr wx))
        case first =>
          go_region_law (go_simp; go_at_call 20; (with_reducible refine (HP.out _ ((Below.refl _ _).drew)).mono ?_); rintro e w5 ⟨hb, hP⟩; rw [E1.out] at hP; obtain rfl := hP; have B5 : Hid (Below wr.heap.size wr w5) := (by exact ⟨hb.os, hb.tape, hb.output, hb.size, hb.block⟩); clear hb)
          all_goals
            go_wp2_with fail
            go_meet
            exact ⟨rfl, B5.out⟩
        case rest =>
          obtain ⟨rfl, HC⟩ := hcut
          clear d0 d1 d2 d3 d4 hbl
          go_wp2_with fail
          go_roundg (gk - 1)
          case measure => omega
          case rel => exact ⟨j + 1, g, off, c', m, _, rfl, by omega, by omega, congrArg (Value.int .i64) (by omega), rfl, by rw [E2.out]; exact HM.out, by rw [E2.out]; exact R.out.keep (HC.out.block _ R.out.lt), by rw [E2.out]; exact O.out.below HC.out, NE.out, B.out.trans (HC.out.mono B.out.size)⟩
    · have hjn : j = n := by omega
      have EL : Hid (l.take j = l) := List.take_of_length_le (by rw [← HN.out]; omega)
      clear hm ht hlt'
      go_wp2_with fail
      go_ret2
      rw [EL.out] at R O HM
      exact ⟨g, off, c', v, by rw [HM.out]; rfl, R.out, O.out, B.out⟩
end Go.Proofs.YtjlakolgaableaaR
