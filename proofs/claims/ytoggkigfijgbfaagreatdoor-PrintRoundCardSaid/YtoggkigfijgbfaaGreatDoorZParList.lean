/- Rows of trees of a call's own that grow; list: items between two signs, whatever item. -/
import Derived.Test.YtoggkigfijgbfaaGreatDoorZAbb
import Derived.Test.YtoggkigfijgbfaaGreatDoorZParOp
import Derived.Deep.AppendLies
namespace Go.Proofs.YtoggkigfijgbfaaGreatDoor.P5
set_option maxRecDepth 20000
open Go.RowKit Go.Maps

/-- A row of the call's own, and what its elements read as: none of them lies in the row. -/
def OwnTrees (p lo : Nat) (T : TypeId) (w : World) (v : Value) (acc : List Tree) : Prop :=
  ∃ xs, w.ownsRow lo T 1 v acc.length xs ∧ (∀ k, v.ownBlock = some k → ∃ x, w.cell? ⟨k, 0, none⟩ = some x ∧ x ≠ pV p) ∧ ∀ (j : Nat) (t : Tree) (x : Value), acc[j]? = some t → xs[j]? = some x → At w (fun k => Since lo w k ∧ v.ownBlock ≠ some k) t x
theorem OwnTrees.nil (p lo : Nat) (T : TypeId) (w : World) : OwnTrees p lo T w (.slice none 0 0) [] := ⟨[], World.ownsRow_nil _ _ _ _, fun k hk => by simp [Value.ownBlock] at hk, fun j t x h => by simp at h⟩
theorem own_past {E : List Nat} {lo : Nat} {T : TypeId} {n : Nat} {w w' : World} {v : Value} {xs : List Value} (h : w.ownsRow lo T 1 v n xs) (hw : Past E w w') (hE : ∀ i, i ∈ E → i < lo) : w'.ownsRow lo T 1 v n xs := by
  obtain ⟨h1, h2⟩ := h
  refine ⟨h1, ?_⟩
  rcases h2 with h2 | ⟨g, cap, cur, a, b, c, d⟩
  · exact .inl h2
  · refine .inr ⟨g, cap, cur, a, b, ?_, d⟩
    have hlt : g < w.heap.size := by
      rcases Nat.lt_or_ge g w.heap.size with h | h
      · exact h
      · rw [Array.getElem?_eq_none h] at c; cases c
    exact (hw.block g hlt (fun hi => by have := hE g hi; omega)).trans c
theorem OwnTrees.past {E : List Nat} {p lo : Nat} {T : TypeId} {w w' : World} {v : Value} {acc : List Tree} (h : OwnTrees p lo T w v acc) (hw : Past E w w') (hE : ∀ i, i ∈ E → i < lo) : OwnTrees p lo T w' v acc := by
  obtain ⟨xs, ho, hd, ht⟩ := h
  refine ⟨xs, own_past ho hw hE, fun k hk => ?_, fun j t x h1 h2 => (at_keep (fun g hg => ?_) t).1 _ (ht j t x h1 h2)⟩
  · obtain ⟨x, hx, hne⟩ := hd k hk
    exact ⟨x, hw.cell_some hx (fun hi => by have := hE k hi; have := (ho.lt k hk).1; omega), hne⟩
  exact ⟨⟨⟨hg.1.1, Nat.lt_of_lt_of_le hg.1.2 hw.size⟩, hg.2⟩, hw.block g hg.1.2 (fun hi => by have := hE g hi; have := hg.1.1; omega)⟩
theorem lenT_treeL (acc : List Tree) : lenT (treeL acc) = acc.length := by
  induction acc with
  | nil => rfl
  | cons x r ih => simp [treeL, lenT, ih]
theorem row_of {w : World} {S : Nat → Prop} {g : Nat} (hS : S g) : ∀ (acc : List Tree) (i : Nat) (xs : List Value), xs.length = acc.length → (∀ j u, xs[j]? = some u → w.cell? ⟨g, i + j, none⟩ = some u) → (∀ (j : Nat) (t : Tree) (x : Value), acc[j]? = some t → xs[j]? = some x → At w S t x) → RowT w S (treeL acc) (some ⟨g, 0, none⟩) i
  | [], _, _, _, _, _ => trivial
  | t :: r, i, [], hl, _, _ => by simp at hl
  | t :: r, i, x :: xs, hl, hc, ht => by
    refine ⟨g, x, rfl, hS, hc 0 x rfl, ht 0 t x rfl rfl, row_of hS r (i + 1) xs (by simpa using hl) (fun j u hu => ?_) (fun j t x h1 h2 => ht (j + 1) t x h1 h2)⟩
    have := hc (j + 1) u hu
    rwa [show i + 1 + j = i + (j + 1) by omega]
theorem OwnTrees.sl {p lo : Nat} {T : TypeId} {w : World} {v : Value} {acc : List Tree} (h : OwnTrees p lo T w v acc) : VL lo (treeL acc) w v := by
  obtain ⟨xs, ho, _, ht⟩ := h
  have hxl : xs.length = acc.length := by have := ho.1; omega
  rcases ho.2 with ⟨rfl, h0⟩ | ⟨g, cap, cur, rfl, hb, hg, _⟩
  · have : acc = [] := List.eq_nil_of_length_eq_zero h0
    subst this
    exact sl_nil _ _
  · have hlt : g < w.heap.size := by
      rcases Nat.lt_or_ge g w.heap.size with h | h
      · exact h
      · rw [Array.getElem?_eq_none h] at hg; cases hg
    refine ⟨some ⟨g, 0, none⟩, cap, by rw [lenT_treeL], ?_⟩
    refine row_of ⟨hb, hlt⟩ acc 0 xs hxl (fun j u hu => ?_) (fun j t x h1 h2 => (at_keep (fun k hk => ⟨hk.1, rfl⟩) t).1 _ (ht j t x h1 h2))
    have := ho.cells (g := g) rfl j u hu
    rw [Nat.zero_add]
    have e : (⟨g, 0, none⟩ : Addr).add j = ⟨g, j, none⟩ := by unfold Addr.add; split <;> simp_all
    rwa [e] at this
/-- Behind an append. -/
theorem own_more {p lo s0 : Nat} {T : TypeId} {w3 w4 : World} {v : Value} {acc : List Tree} {xs : List Value} {t : Tree} {x : Value} {g cap : Nat}
    (ht : ∀ (j : Nat) (t : Tree) (x : Value), acc[j]? = some t → xs[j]? = some x → At w3 (fun k => Since lo w3 k ∧ v.ownBlock ≠ some k) t x) (hxl : xs.length = acc.length)
    (hn : AtS s0 w3 t x) (hx0 : x ≠ pV p) (hd : ∀ k, v.ownBlock = some k → ∃ x, w3.cell? ⟨k, 0, none⟩ = some x ∧ x ≠ pV p) (ho3 : w3.ownsRow lo T 1 v acc.length xs) (hs : lo ≤ s0) (hv : ∀ k, v.ownBlock = some k → k < s0)
    (ho : w4.ownsRow lo T 1 (.slice (some ⟨g, 0, none⟩) (acc.length + 1) cap) (acc.length + 1) (xs ++ [x])) (hg : w3.grownBy w4 v.ownBlock) (hat : v.ownBlock = some g ∨ g = w3.heap.size) :
    OwnTrees p lo T w4 (.slice (some ⟨g, 0, none⟩) (acc.length + 1) cap) (acc ++ [t]) := by
  refine ⟨xs ++ [x], by rw [List.length_append]; exact ho, ?_, ?_⟩
  · intro k hk
    have e : g = k := by simpa [Value.ownBlock] using hk
    subst e
    have hc := ho.cells (g := g) rfl
    cases xs with
    | nil => exact ⟨x, by simpa [Addr.add] using hc 0 x rfl, hx0⟩
    | cons y ys =>
      refine ⟨y, by simpa [Addr.add] using hc 0 y rfl, ?_⟩
      rcases ho3.2 with ⟨rfl, h0⟩ | ⟨g', cap', cur', rfl, _, _, _⟩
      · rw [h0] at hxl; simp at hxl
      · obtain ⟨z, hz, hzn⟩ := hd g' rfl
        have hy := ho3.cells (g := g') rfl 0 y rfl
        have e : (⟨g', 0, none⟩ : Addr).add 0 = ⟨g', 0, none⟩ := by simp [Addr.add]
        rw [e, hz] at hy
        injection hy with hy
        rw [← hy]; exact hzn
  have key : ∀ k, Since lo w3 k → v.ownBlock ≠ some k → (Since lo w4 k ∧ Value.ownBlock (.slice (some ⟨g, 0, none⟩) (acc.length + 1) cap) ≠ some k) ∧ w4.heap[k]? = w3.heap[k]? := by
    intro k hk hne
    refine ⟨⟨⟨hk.1, Nat.lt_of_lt_of_le hk.2 hg.size⟩, ?_⟩, hg.block k hk.2 (fun e => hne e.symm)⟩
    intro e
    have e : g = k := by simpa [Value.ownBlock] using e
    subst e
    rcases hat with h | h
    · exact hne h
    · have := hk.2; omega
  intro j t' x' h1 h2
  by_cases hj : j < acc.length
  · rw [List.getElem?_append_left hj] at h1
    rw [List.getElem?_append_left (by omega)] at h2
    exact (at_keep (fun k hk => key k hk.1 hk.2) t').1 _ (ht j t' x' h1 h2)
  · have hj' : j = acc.length := by
      rcases Nat.lt_or_ge j (acc.length + 1) with h | h
      · omega
      · rw [List.getElem?_eq_none (by simp; omega)] at h1; cases h1
    subst hj'
    have e1 : t = t' := by simpa using h1
    have e2 : x = x' := by rw [← hxl] at h2; simpa using h2
    subst e1; subst e2
    exact (at_keep (fun k hk => key k ⟨Nat.le_trans hs hk.1, hk.2⟩ (fun e => by have := hv k e; have := hk.1; omega)) t).1 _ hn
/-- What a call leaves, with whatever is said of what it left as it was. -/
def EndsG (p d lo0 : Nat) (Fr : World → Prop) (r : Res) (V : Tree → World → Value → Prop) (e : Ending) (w' : World) : Prop :=
  match r with
  | .out => False
  | .bad c l => ∃ b, e = panicV b ∧ lo0 ≤ b ∧ FaultAt w' b c l ∧ Fr w' ∧ Warm w' p
  | .ok x ts => ∃ v, e = .returned v ∧ V x w' v ∧ PAt w' p d ts ∧ Fr w'
/-- The loop's head in list. -/
structure ListRel (n p d q k : Nat) (last : List UInt8) (I : List Tree → World → Prop) (w : World) (R : Res) (m : Nat) (ts : List Tok) (acc : List Tree) (wr : World) : Prop where
  inv : I acc wr
  pat : PAt wr p (d + 1) ts
  past : Past [p] w wr
  le : m ≤ n
  eq : parseF m (.listLoop last k acc) (d + 1) ts = R
  close : wr.cell? ⟨q, 0, none⟩ = some (pV p)
  len : acc.length + m ≤ n + 1
set_option maxHeartbeats 8000000 in
theorem list_any {n : Nat} {w : World} {p d c1 c2 K k : Nat} {ts : List Tok} (first last : List UInt8) (hf : first ≠ []) (hl : last ≠ []) (I : List Tree → World → Prop) (wo : World) (hwo : Past [p] wo w) (hpo : p < wo.heap.size) (lo : Nat) (hlo : lo ≤ w.heap.size)
    (hI : ∀ acc w w', I acc w → Past [p] w w' → I acc w')
    (step : ∀ (m d q : Nat) (acc : List Tree) (w : World) (ts : List Tok), m ≤ n → acc.length ≤ n + 1 → I acc w → Past [p] wo w → lo ≤ q → w.cell? ⟨q, 0, none⟩ = some (pV p) → PAt w p d ts → parseF m (.one k) d ts ≠ .out → Calls Tryz.prog K #[pV c1, pV c2] w (EndsG p d wo.heap.size (fun w' => Past [p] wo w' ∧ w'.cell? ⟨q, 0, none⟩ = some (pV p)) (parseF m (.one k) d ts) (fun x w' v => v = .tuple #[] ∧ I (acc ++ [x]) w')))
    (hK : ∀ (args : Array Value) (w : World), (callFunc K args).run Tryz.prog w = .ok (.enter K args) w)
    (h : PAt w p d ts) (h0 : I [] w) (hD : parseF (n + 1) (.list first last k) d ts ≠ .out) :
    Calls Tryz.prog 189 #[pV p, sV first, sV last, .func (.func K) #[] #[pV c1, pV c2]] w (Ends p d [p] (parseF (n + 1) (.list first last k) d ts) (fun x w' v => v = .tuple #[] ∧ ∃ acc, x = treeL acc ∧ I acc w') wo) := by
  have hpl := h.lt
  unfold parseF at hD ⊢
  simp only [] at hD ⊢
  have C0 := Lib.hid (fun (w : World) (h : PAt w p d ts) => begin_any first hf h)
  have D0 : beginT first d ts ≠ .out := bind_done hD
  have hI := Lib.hid hI
  have step := Lib.hid step
  have h0 := Lib.hid h0
  have hWO := Lib.hid hwo
  have hzo := hwo.size
  clear hwo
  generalize beginT first d ts = r0 at hD D0 C0 ⊢
  cases r0 with
  | out => exact absurd rfl D0
  | bad c l =>
    clear hD D0 step
    go_enter_defers Tryz.func189, Tryz.ntmps189
    go_wp2_with (first
      | (go_at_call 143; (with_reducible refine (C0.out _ ?_).mono ?_); (· exact ab1); rintro e wb hB; obtain ⟨b', rfl, hb1, hb2, hb3, hb4⟩ := hB))
    exact ⟨b', rfl, Nat.le_trans hzo hb1, hb2, hWO.out.trans hb3, hb4⟩
  | ok x0 ts0 =>
    rw [ok_bind] at hD ⊢
    clear D0
    by_cases k1 : sgnT ts0 = last
    · rw [if_pos k1] at hD ⊢
      have hwt : wantT last ts0 = .ok .nil ts0.tail := by unfold wantT; rw [if_pos k1]
      have C1 := Lib.hid (fun (w : World) (h : PAt w p (d + 1) ts0) => want_any last hl h)
      rw [hwt] at C1 ⊢
      have q1 := beq_yes k1
      clear hD step k1 hwt
      go_enter_defers Tryz.func189, Tryz.ntmps189
      go_wp2_with (first
        | (go_at_call 143; (with_reducible refine (C0.out _ ?_).mono ?_); (· exact ab1); rintro e w0 ⟨v0, rfl, ⟨q, rfl, hq1, hq2⟩, hp0, hw0⟩; have hz0 := hw0.size; (try simp at hz0); (try simp at hq1))
        | (go_at_call 87; (with_reducible refine (C1.out _ ?_).mono ?_); (· exact ab1); rintro e w1 ⟨v1, rfl, rfl, hp1, hw1⟩; have hz1 := hw1.size; (try simp at hz1); have hq2 := hw1.cell_some hq2 (by simp; omega))
        | (go_at_call 84; (with_reducible refine (sign_any (d := (d + 1)) (ts := ts0) ?_).mono ?_); (· exact ab1); rintro e wz ⟨rfl, hqz⟩; obtain rfl := hqz.symm))
      exact door_ok hq2 hp1 (hWO.out.trans (hw0.trans hw1)) (by simp) (fun W => results_none rfl _ _ _) (fun W hW => ⟨rfl, [], rfl, hI.out _ _ _ (hI.out _ _ _ h0.out (hw0.trans hw1)) hW⟩)
    · rw [if_neg k1] at hD ⊢
      have q1 := beq_no k1
      have D1 : parseF n (.one k) (d + 1) ts0 ≠ .out := bind_done hD
      have C1 := Lib.hid (fun (w : World) (h : PAt w p (d + 1) ts0) (hi : I [] w) (ho : Past [p] wo w) (q : Nat) (hq : lo ≤ q) (hc : w.cell? ⟨q, 0, none⟩ = some (pV p)) => step.out n (d + 1) q [] w ts0 (Nat.le_refl _) (by simp) hi ho hq hc h D1)
      generalize parseF n (.one k) (d + 1) ts0 = r1 at hD D1 C1 ⊢
      cases r1 with
      | out => exact absurd rfl D1
      | bad c l =>
        clear hD D1 step k1
        go_enter_defers Tryz.func189, Tryz.ntmps189
        go_wp2_with (first
          | (go_at_call 143; (with_reducible refine (C0.out _ ?_).mono ?_); (· exact ab1); rintro e w0 ⟨v0, rfl, ⟨q, rfl, hq1, hq2⟩, hp0, hw0⟩; have hz0 := hw0.size; (try simp at hz0); (try simp at hq1); have HI := hI.out _ _ _ h0.out hw0; have HO := hWO.out.trans hw0; have hlq : lo ≤ q := (by omega))
          | ((with_reducible refine (C1.out _ ?_ ?_ ?_ q ?_ ?_).mono ?_); (· exact ab1); (· exact HI); (· exact HO); (· exact hlq); (· exact hq2); rintro e wb hB; obtain ⟨b', rfl, hb1, hb2, ⟨hb3, hqb⟩, hb4⟩ := hB)
          | (go_at_call 84; (with_reducible refine (sign_any (d := (d + 1)) (ts := ts0) ?_).mono ?_); (· exact ab1); rintro e wz ⟨rfl, hqz⟩; obtain rfl := hqz.symm))
        exact door_bad hqb hb1 hb2 hb3 hb4 (by simp) hpo
      | ok x1 ts1 =>
        rw [ok_bind] at hD ⊢
        generalize hR : parseF n (.listLoop last k [x1]) (d + 1) ts1 = R at hD ⊢
        replace hR := Lib.hid hR
        have HD := Lib.hid hD
        clear hD D1 k1
        go_enter_defers Tryz.func189, Tryz.ntmps189
        go_wp2_with (first
          | (go_at_call 143; (with_reducible refine (C0.out _ ?_).mono ?_); (· exact ab1); rintro e w0 ⟨v0, rfl, ⟨q, rfl, hq1, hq2⟩, hp0, hw0⟩; have hz0 := hw0.size; (try simp at hz0); (try simp at hq1); have HI := hI.out _ _ _ h0.out hw0; have HO := hWO.out.trans hw0; have hlq : lo ≤ q := (by omega))
          | ((with_reducible refine (C1.out _ ?_ ?_ ?_ q ?_ ?_).mono ?_); (· exact ab1); (· exact HI); (· exact HO); (· exact hlq); (· exact hq2); rintro e w1 ⟨v1, rfl, ⟨rfl, hv1⟩, hp1, hw1, hq3⟩; have hz1 := hw1.size; (try simp at hz1))
          | (go_at_call 84; (with_reducible refine (sign_any (d := (d + 1)) (ts := ts0) ?_).mono ?_); (· exact ab1); rintro e wz ⟨rfl, hqz⟩; obtain rfl := hqz.symm))
        have REL0 := Lib.hid (ListRel.mk (n := n) hv1 hp1 hw1 (Nat.le_refl n) hR.out hq3 (by simp; omega) : ListRel n p d q k last I wo R n ts1 [x1] w1)
        clear hv1 hp1 hR HI hq2 hq3 hw0 hw1 HO
        go_loopg [] n (fun m wr => ∃ (ts : List Tok) (acc : List Tree), Hid (ListRel n p d q k last I wo R m ts acc wr))
        case atStart => exact ⟨ts1, [x1], REL0⟩
        case round =>
          obtain ⟨ts2, acc, hF⟩ := hrel
          clear REL0 C1
          cases gk with
          | zero => exact (no_fuel hF.out.eq HD.out).elim
          | succ m =>
            have hpr := hF.out.pat
            have hE1 := hF.out.eq
            have hle := hF.out.le
            have hlen := hF.out.len
            have hzr := hF.out.past.size
            have hqr := hF.out.close
            unfold parseF at hE1
            simp only [] at hE1
            by_cases k2 : sgnT ts2 = [44]
            · rw [if_pos k2] at hE1
              have q2 := beq_yes k2
              have hk : (hdT ts2).kind ≠ 5 := by have := (sgn_sign (ts := ts2) (by rw [k2]; decide)).1; omega
              have CT := Lib.hid (fun (w : World) (h : PAt w p (d + 1) ts2) => take_any h hk)
              have D1 : parseF m (.one k) (d + 1) ts2.tail ≠ .out := fun e => HD.out (by rw [← hE1, e]; rfl)
              have C1 := Lib.hid (fun (w : World) (h : PAt w p (d + 1) ts2.tail) (hi : I acc w) (ho : Past [p] wo w) (q : Nat) (hq : lo ≤ q) (hc : w.cell? ⟨q, 0, none⟩ = some (pV p)) => step.out m (d + 1) q acc w ts2.tail (by omega) (by omega) hi ho hq hc h D1)
              generalize parseF m (.one k) (d + 1) ts2.tail = r1 at hE1 D1 C1
              clear k2 hk step
              cases r1 with
              | out => exact absurd rfl D1
              | bad c l =>
                have hE1 : Res.bad c l = R := hE1
                subst hE1
                clear D1 HD
                go_wp2_with (first
                  | (go_at_call 141; (with_reducible refine (CT.out _ ?_).mono ?_); (· exact ab1); rintro e w9 ⟨rfl, hp9, hw9⟩; have hz9 := hw9.size; (try simp at hz9); have HI := hI.out _ _ _ hF.out.inv hw9; have HO := hF.out.past.trans hw9; have hqr := hw9.cell_some hqr (by simp; omega))
                  | ((with_reducible refine (C1.out _ ?_ ?_ ?_ q ?_ ?_).mono ?_); (· exact ab1); (· exact HI); (· exact HO); (· exact hlq); (· exact hqr); rintro e wb hB; obtain ⟨b', rfl, hb1, hb2, ⟨hb3, hqb⟩, hb4⟩ := hB)
                  | (go_at_call 84; (with_reducible refine (sign_any (d := (d + 1)) (ts := ts2) ?_).mono ?_); (· exact ab1); rintro e wz ⟨rfl, hqz⟩; obtain rfl := hqz.symm))
                exact door_bad hqb hb1 hb2 hb3 hb4 (by simp) hpo
              | ok x1' ts3 =>
                have hE1 := Lib.hid (hE1 : parseF m (.listLoop last k (acc ++ [x1'])) (d + 1) ts3 = R)
                clear D1
                go_wp2_with (first
                  | (go_at_call 141; (with_reducible refine (CT.out _ ?_).mono ?_); (· exact ab1); rintro e w9 ⟨rfl, hp9, hw9⟩; have hz9 := hw9.size; (try simp at hz9); have HI := hI.out _ _ _ hF.out.inv hw9; have HO := hF.out.past.trans hw9; have hqr := hw9.cell_some hqr (by simp; omega))
                  | ((with_reducible refine (C1.out _ ?_ ?_ ?_ q ?_ ?_).mono ?_); (· exact ab1); (· exact HI); (· exact HO); (· exact hlq); (· exact hqr); rintro e w1 ⟨v1, rfl, ⟨rfl, hv1⟩, hp1, hw1, hq3⟩; have hz1 := hw1.size; (try simp at hz1))
                  | (go_at_call 84; (with_reducible refine (sign_any (d := (d + 1)) (ts := ts2) ?_).mono ?_); (· exact ab1); rintro e wz ⟨rfl, hqz⟩; obtain rfl := hqz.symm))
                go_roundg m
                case measure => omega
                case rel => exact ⟨ts3, acc ++ [x1'], Lib.hid (ListRel.mk hv1 hp1 hw1 (by omega) hE1.out hq3 (by simp; omega))⟩
            · rw [if_neg k2] at hE1
              have q2 := beq_no k2
              have D1 : wantT last ts2 ≠ .out := fun e => HD.out (by rw [← hE1, e]; rfl)
              have C1 := Lib.hid (fun (w : World) (h : PAt w p (d + 1) ts2) => want_any last hl h)
              generalize wantT last ts2 = r1 at hE1 D1 C1
              clear k2 step
              cases r1 with
              | out => exact absurd rfl D1
              | bad c l =>
                have hE1 : Res.bad c l = R := hE1
                subst hE1
                clear D1 HD
                go_wp2_with (first
                  | (go_at_call 87; (with_reducible refine (C1.out _ ?_).mono ?_); (· exact ab1); rintro e wb hB; obtain ⟨b', rfl, hb1, hb2, hb3, hb4⟩ := hB)
                  | (go_at_call 84; (with_reducible refine (sign_any (d := (d + 1)) (ts := ts2) ?_).mono ?_); (· exact ab1); rintro e wz ⟨rfl, hqz⟩; obtain rfl := hqz.symm))
                exact door_bad (hb3.cell_some hqr (by simp; omega)) (Nat.le_trans ab6 hb1) hb2 (hF.out.past.trans hb3) hb4 (by simp) hpo
              | ok x1' ts3 =>
                have hE1 : Res.ok (treeL acc) ts3 = R := hE1
                subst hE1
                clear D1 HD
                go_wp2_with (first
                  | (go_at_call 87; (with_reducible refine (C1.out _ ?_).mono ?_); (· exact ab1); rintro e w1 ⟨v1, rfl, rfl, hp1, hw1⟩; have hz1 := hw1.size; (try simp at hz1); have hqr := hw1.cell_some hqr (by simp; omega))
                  | (go_at_call 84; (with_reducible refine (sign_any (d := (d + 1)) (ts := ts2) ?_).mono ?_); (· exact ab1); rintro e wz ⟨rfl, hqz⟩; obtain rfl := hqz.symm))
                exact door_ok hqr hp1 (hF.out.past.trans hw1) (by simp) (fun W => results_none rfl _ _ _) (fun W hW => ⟨rfl, acc, rfl, hI.out _ _ _ (hI.out _ _ _ hF.out.inv hw1) hW⟩)
end Go.Proofs.YtoggkigfijgbfaaGreatDoor.P5
