/- find, addUse: what a use of a name means. -/
import Derived.Test.YtlbbbfmnghcdnaaScUp
namespace Go.Proofs.Ytlbbbfmnghcdnaa
set_option maxRecDepth 20000
open Go.RowKit Go.Maps

theorem results_cell {fn : Func} {p : Tmp} {ty : TypeId} (h : fn.results = #[.cell p ty]) (tmps : Array Value) (P : Program) (w : World) :
    (results fn tmps).run P w = ((asAddr (tmps.getD p undef)).run P w).andThen fun a w₁ => (loadVar ty a).run P w₁ := by
  simp only [results, h]
  simp [Sem.run_bind, Result.andThen]
theorem load_use {W : World} {b : Nat} {v0 v1 v2 v3 : Value} (h0 : W.cell? ⟨b, 0, none⟩ = some v0) (h1 : W.cell? ⟨b, 1, none⟩ = some v1) (h2 : W.cell? ⟨b, 2, none⟩ = some v2) (h3 : W.cell? ⟨b, 3, none⟩ = some v3) :
    (loadVar 103 ⟨b, 0, none⟩).run Try.prog W = .ok (.agg #[v0, v1, v2, v3]) W := by
  have ha := Try.isAgg103
  simp only [loadVar, Sem.run_bind, ha, Result.andThen]
  simp [go_sem, h0, h1, h2, h3]
theorem ret_use {fn : Func} {R : Ending → World → Prop} {a : Act} {W : World} {p : Tmp} {b : Nat} {v0 v1 v2 v3 : Value} (h : fn.results = #[.cell p 103]) (hp : a.tmps.getD p undef = .pointer (some ⟨b, 0, none⟩))
    (h0 : W.cell? ⟨b, 0, none⟩ = some v0) (h1 : W.cell? ⟨b, 1, none⟩ = some v1) (h2 : W.cell? ⟨b, 2, none⟩ = some v2) (h3 : W.cell? ⟨b, 3, none⟩ = some v3) (hd : a.defers = [])
    (hR : R (.returned (.agg #[v0, v1, v2, v3])) W) : bodyPost Try.prog fn R .ret a W := by
  refine bodyPost_ret (v := .agg #[v0, v1, v2, v3]) ?_ hd hR
  rw [results_cell h, hp]
  simp only [asAddr, Sem.run_pure, Result.andThen_ok, load_use h0 h1 h2 h3]
/-- Where the names of locals are found: within them. -/
def WFn (f : FnS) : Prop := ∀ i, i ∈ f.full → i < f.locals.length
theorem getD_of {α : Type} {l : List α} {n : Nat} {x d : α} (h : l[n]? = some x) : l.getD n d = x := by rw [List.getD_eq_getElem?_getD, h]; rfl
/-- What find leaves of the functions. -/
structure Found (suf : List Nat) (fns fns' : List FnS) (u : UseS) : Prop where
  len : fns'.length = fns.length
  other : ∀ (k : Nat), k ∉ suf → fns'[k]? = fns[k]?
  same : ∀ (k : Nat) (f' : FnS), fns'[k]? = some f' → ∃ f : FnS, fns[k]? = some f ∧ f'.locals.length = f.locals.length ∧ f'.full = f.full ∧ f'.uses = f.uses
  own : ∀ (n : Nat) (rest : List Nat) (i : Nat), suf = n :: rest → u.own = some i → u.at_ ≠ 3 ∧ ∃ f : FnS, fns'[n]? = some f ∧ i < f.locals.length
theorem modify_at {α : Type} {l : List α} {n k : Nat} {φ : α → α} {x : α} (h : (l.modify n φ)[k]? = some x) : ∃ y, l[k]? = some y ∧ x = if n = k then φ y else y := by
  rw [List.getElem?_modify] at h
  obtain ⟨y, hy, e⟩ := Option.map_eq_some_iff.1 h
  exact ⟨y, hy, e.symm⟩
theorem modify_not {α : Type} {l : List α} {n k : Nat} {φ : α → α} (h : k ≠ n) : (l.modify n φ)[k]? = l[k]? := by
  rw [List.getElem?_modify]
  simp [Ne.symm h]
theorem found (s : List UInt8) (l : Int) : ∀ (suf : List Nat) (fns fns' : List FnS) (u : UseS), (∀ (k : Nat) (f : FnS), fns[k]? = some f → WFn f) → (∀ k, k ∈ suf → k < fns.length) → findS s l suf fns = .ok fns' u → Found suf fns fns' u
  | [], fns, fns', u, _, _, h => by
    simp only [findS, FindS.ok.injEq] at h
    obtain ⟨rfl, rfl⟩ := h
    exact ⟨rfl, fun _ _ => rfl, fun k f' h => ⟨f', h, rfl, rfl, rfl⟩, fun n rest i e => by cases e⟩
  | n :: rest, fns, fns', u, hw, hlt, h => by
    have hn : n < fns.length := hlt n (by simp)
    have hf : fns[n]? = some fns[n] := List.getElem?_eq_getElem hn
    simp only [findS, getD_of hf] at h
    split at h
    · rename_i i hi
      simp only [FindS.ok.injEq] at h
      obtain ⟨rfl, rfl⟩ := h
      refine ⟨rfl, fun _ _ => rfl, fun k f' h => ⟨f', h, rfl, rfl, rfl⟩, fun n' rest' i' e1 e2 => ?_⟩
      injection e1 with e1 _
      subst e1
      injection e2 with e2
      subst e2
      exact ⟨(show (1 : Nat) ≠ 3 by decide), _, hf, hw n _ hf i (namedIn_mem hi)⟩
    · split at h
      · simp only [FindS.ok.injEq] at h
        obtain ⟨rfl, rfl⟩ := h
        exact ⟨rfl, fun _ _ => rfl, fun k f' h => ⟨f', h, rfl, rfl, rfl⟩, fun n' rest' i' _ e2 => by cases e2⟩
      · rename_i m rest'
        split at h
        · simp only [FindS.ok.injEq] at h
          obtain ⟨rfl, rfl⟩ := h
          exact ⟨rfl, fun _ _ => rfl, fun k f' h => ⟨f', h, rfl, rfl, rfl⟩, fun n' rest' i' _ e2 => by cases e2⟩
        · split at h
          · cases h
          · rename_i fns1 u1 hr
            have IH := found s l (m :: rest') fns fns1 u1 hw (fun k hk => hlt k (by simp [hk])) hr
            split at h
            · rename_i h3
              simp only [FindS.ok.injEq] at h
              obtain ⟨rfl, rfl⟩ := h
              refine ⟨IH.len, fun k hk => IH.other k (fun h => hk (by simp [h])), IH.same, fun n' rest'' i' _ e2 => ?_⟩
              exact absurd h3 (IH.own m rest' i' rfl e2).1
            · split at h
              · cases h
              · simp only [FindS.ok.injEq] at h
                obtain ⟨rfl, rfl⟩ := h
                have hlen : ((outerBox fns1 u1.own (m :: rest')).modify n fun f => f.addUp ⟨u1.own.isSome, u1.index, s⟩).length = fns1.length := by
                  rw [List.length_modify]
                  cases u1.own <;> simp [outerBox]
                refine ⟨hlen.trans IH.len, fun k hk => ?_, fun k f' hk => ?_, fun n' rest'' i' _ e2 => by cases e2⟩
                · rw [modify_not (by rintro rfl; exact hk (by simp))]
                  have hk2 : k ∉ m :: rest' := fun h => hk (by simp [h])
                  rw [← IH.other k hk2]
                  show (match u1.own with | some i => fns1.modify m fun f => f.box i | none => fns1)[k]? = _
                  split
                  · exact modify_not (by rintro rfl; exact hk2 (by simp))
                  · rfl
                · obtain ⟨y, hy, e⟩ := modify_at hk
                  have hz : ∃ z, fns1[k]? = some z ∧ y.locals.length = z.locals.length ∧ y.full = z.full ∧ y.uses = z.uses := by
                    have hy' : (match u1.own with | some i => fns1.modify m fun f => f.box i | none => fns1)[k]? = some y := hy
                    split at hy'
                    · obtain ⟨z, hz, e⟩ := modify_at hy'
                      refine ⟨z, hz, ?_⟩
                      rw [e]
                      split
                      · exact ⟨boxL_len _ _, rfl, rfl⟩
                      · exact ⟨rfl, rfl, rfl⟩
                    · exact ⟨y, hy', rfl, rfl, rfl⟩
                  obtain ⟨z, hz1, hz2, hz3, hz4⟩ := hz
                  obtain ⟨f, hf1, hf2, hf3, hf4⟩ := IH.same k z hz1
                  refine ⟨f, hf1, ?_⟩
                  rw [e]
                  split
                  · exact ⟨hz2.trans hf2, hz3.trans hf3, hz4.trans hf4⟩
                  · exact ⟨hz2.trans hf2, hz3.trans hf3, hz4.trans hf4⟩
def useV (L : Nat → Nat) (u : UseS) : Value := .agg #[iV u.at_, iV u.index, .bool false, ownP L u.own]
/-- What a call of find leaves. -/
def EndsF (T : Own) (lo p n : Nat) (G : Nat → Gh) (vn : Value) (st : StS) (r : FindS) (w : World) (e : Ending) (w' : World) : Prop :=
  match r with
  | .bad l => BadS T w 3 l e w'
  | .ok fns u => ∃ T' G', e = .returned (useV (G n).L u) ∧ WAt w' T' lo p G' vn { st with fns := fns } ∧ Turn (fun _ => True) T w T' w' ∧ Still G G'
theorem WAt.wf {w : World} {T : Own} {lo p : Nat} {G : Nat → Gh} {vn : Value} {st : StS} (h : WAt w T lo p G vn st) : ∀ (k : Nat) (f : FnS), st.fns[k]? = some f → WFn f := fun k f hf => (h.fn k f hf).ls.lt
theorem zero_use (w : World) : (zeroValue 103).run Try.prog w = .ok (.agg #[.int .i64 0, .int .i64 0, .bool false, .pointer none]) w := by kernel_rfl
set_option maxHeartbeats 4000000 in
theorem find_any (s : List UInt8) (hsl : s.length ≤ 1099511627776) (l : Int) : ∀ (suf : List Nat) (n : Nat) (rest : List Nat), suf = n :: rest → ∀ {w : World} {T : Own} {lo p : Nat} {G : Nat → Gh} {vn : Value} {st : StS} (pre : List Nat), WAt w T lo p G vn st → st.stack = pre ++ suf →
    Calls Try.prog 71 #[pV (G n).b, sV s, iV l] w (EndsF T lo p n G vn st (findS s l suf st.fns) w) := by
  intro suf
  induction suf with
  | nil => intro n rest e; cases e
  | cons k r ih =>
    intro n rest e w T lo p G vn st pre h hst
    injection e with e1 e2
    subst e1; subst e2
    obtain ⟨hn, hc3⟩ := h.chain pre k r hst
    have hf : st.fns[k]? = some st.fns[k] := List.getElem?_eq_getElem hn
    generalize st.fns[k] = f at hf
    have F := h.fn k f hf
    simp only [findS, getD_of hf]
    obtain ⟨g, hG⟩ : ∃ g, G k = g := ⟨_, rfl⟩
    have h1 := h.alloc (.cells #[.int .i64 0, .int .i64 0, .bool false, .pointer none] 103)
    have F1 := h1.fn k f hf
    rw [hG] at F F1 hc3 ⊢
    have LK := F1.map.look s hsl
    have c2 := F.hd.c2
    have c7 := F.hd.c7
    have hbl := F.b_lt
    cases hnm : f.named s with
    | some i =>
      have hi : i < f.locals.length := F.ls.lt i (namedIn_mem hnm)
      have hli := List.getElem?_eq_getElem hi
      have hgd : f.locals.getD i default = f.locals[i] := getD_of hli
      simp only [hgd]
      generalize f.locals[i] = li at *
      rw [hnm] at LK
      obtain ⟨t1, xb, c1b⟩ := F.ls.loc i li hli
      have b0 := c1b.c0
      have bl := c1b.lt
      have HA := Lib.hid (fun o => h.alloc o)
      clear h h1 F F1 c1b ih
      simp only [Option.map_some, ptrO] at LK
      go_enter Try.func71, Try.ntmps71
      go_wp2_with fail
      refine ret_use rfl rfl (b := w.heap.size) (v0 := iV 1) (v1 := iV li.reg) (v2 := .bool false) (v3 := pV (g.L i)) (by simp [go_sem]) (by simp [go_sem]) (by simp [go_sem]) (by simp [go_sem]) rfl ?_
      exact ⟨T, G, by rw [hG]; rfl, HA.out _, (Turn.refl _ _ _).alloc _ fun _ _ => rfl, Still.refl _⟩
    | none =>
      rw [hnm] at LK
      simp only [Option.map_none, ptrO] at LK
      cases r with
      | nil =>
        simp only [curV] at hc3
        have HA := Lib.hid (fun o => h.alloc o)
        clear h h1 F F1 ih
        go_enter Try.func71, Try.ntmps71
        go_wp2_with fail
        refine ret_use rfl rfl (b := w.heap.size) (v0 := iV 3) (v1 := iV 0) (v2 := .bool false) (v3 := .pointer none) (by simp [go_sem]) (by simp [go_sem]) (by simp [go_sem]) (by simp [go_sem]) rfl ?_
        exact ⟨T, G, rfl, HA.out _, (Turn.refl _ _ _).alloc _ fun _ _ => rfl, Still.refl _⟩
      | cons m r =>
        simp only [curV] at hc3
        have LP := F1.places.look s hsl
        cases hpl : placeIn s f.ups with
        | some q =>
          rw [hpl] at LP
          simp only [Option.getD_some, Option.isSome_some] at LP
          have HA := Lib.hid (fun o => h.alloc o)
          clear h h1 F F1 ih
          go_enter Try.func71, Try.ntmps71
          go_wp2_with fail
          refine ret_use rfl rfl (b := w.heap.size) (v0 := iV 2) (v1 := iV q) (v2 := .bool false) (v3 := .pointer none) (by simp [go_sem]) (by simp [go_sem]) (by simp [go_sem]) (by simp [go_sem]) rfl ?_
          exact ⟨T, G, rfl, HA.out _, (Turn.refl _ _ _).alloc _ fun _ _ => rfl, Still.refl _⟩
        | none =>
          rw [hpl] at LP
          simp only [Option.getD_none, Option.isSome_none] at LP
          have C := ih m r rfl (pre ++ [k]) h1 (by simp [hst])
          have hkr : k ∉ m :: r := by
            have hso := h.sorted
            rw [hst] at hso
            have := (List.pairwise_cons.1 (List.pairwise_append.1 hso).2.1).1
            intro hm
            have := this k hm
            omega
          have hlt : ∀ k, k ∈ m :: r → k < st.fns.length := fun j hj => by
            obtain ⟨a, b, e⟩ := List.append_of_mem hj
            exact (h.chain (pre ++ k :: a) j b (by rw [hst, e]; simp)).1
          have hfr := h.fresh w.heap.size (Nat.le_refl _)
          have T1 : Turn (fun _ => True) T w T (w.alloc (.cells #[.int .i64 0, .int .i64 0, .bool false, .pointer none] 103)) := (Turn.refl _ _ _).alloc _ fun _ _ => rfl
          have FD := found s l (m :: r) st.fns
          cases hr : findS s l (m :: r) st.fns with
          | bad l' =>
            rw [hr] at C
            have HC := Lib.hid C
            have HT := Lib.hid T1
            clear h h1 F F1 ih C T1 FD hr
            go_enter Try.func71, Try.ntmps71
            go_wp2_with (first
              | (go_at_call 71; (with_reducible refine HC.out.mono ?_); rintro e w2 hB; obtain ⟨b, T', rfl, hb1, hb2, hb3⟩ := hB))
            exact ⟨rfl, BadS.after ⟨b, T', rfl, hb1, hb2, hb3⟩ HT.out⟩
          | ok fns1 u =>
            rw [hr] at C
            replace FD := FD fns1 u h.wf hlt hr
            have hf1 : fns1[k]? = some f := (FD.other k hkr).trans hf
            have HC := Lib.hid C
            have HT := Lib.hid T1
            have K1 : ∀ (T2 : Own) (w2 : World), Turn (fun _ => True) T (w.alloc (.cells #[.int .i64 0, .int .i64 0, .bool false, .pointer none] 103)) T2 w2 → (T2 w.heap.size = none ∧ w.heap.size < w2.heap.size ∧ w2.cell? ⟨w.heap.size, 0, none⟩ = some (iV 0) ∧ w2.cell? ⟨w.heap.size, 1, none⟩ = some (iV 0) ∧ w2.cell? ⟨w.heap.size, 2, none⟩ = some (.bool false) ∧ w2.cell? ⟨w.heap.size, 3, none⟩ = some (.pointer none)) ∧ (w2.frozen? ⟨w.heap.size, 0, none⟩ = false ∧ w2.frozen? ⟨w.heap.size, 1, none⟩ = false ∧ w2.frozen? ⟨w.heap.size, 2, none⟩ = false ∧ w2.frozen? ⟨w.heap.size, 3, none⟩ = false) := fun T2 w2 ht => by
              have hb := ht.free (k := w.heap.size) (by simp) hfr
              have C : ∀ j, w2.cell? ⟨w.heap.size, j, none⟩ = (w.alloc (.cells #[.int .i64 0, .int .i64 0, .bool false, .pointer none] 103)).cell? ⟨w.heap.size, j, none⟩ := fun j => World.cell?_of_block (a := ⟨w.heap.size, j, none⟩) hb
              have Z : ∀ j, w2.frozen? ⟨w.heap.size, j, none⟩ = (w.alloc (.cells #[.int .i64 0, .int .i64 0, .bool false, .pointer none] 103)).frozen? ⟨w.heap.size, j, none⟩ := fun j => World.frozen?_of_block (a := ⟨w.heap.size, j, none⟩) hb
              have hs := ht.size
              refine ⟨⟨(ht.own _ (by simp)).trans hfr, by simp at hs; omega, (C 0).trans (by simp [go_sem]), (C 1).trans (by simp [go_sem]), (C 2).trans (by simp [go_sem]), (C 3).trans (by simp [go_sem])⟩, (Z 0).trans (by simp [go_sem]), (Z 1).trans (by simp [go_sem]), (Z 2).trans (by simp [go_sem]), (Z 3).trans (by simp [go_sem])⟩
            replace K1 := Lib.hid K1
            by_cases h3 : u.at_ = 3
            · simp only [if_pos h3]
              have hq : ((u.at_ : Int) == 3) = true := by rw [h3]; rfl
              obtain ⟨ov, hov⟩ : ∃ ov, ownP (G m).L u.own = ov := ⟨_, rfl⟩
              have hon : u.own = none := by
                cases ho : u.own with
                | none => rfl
                | some i => exact absurd h3 (FD.own m r i rfl ho).1
              have hov2 : ownP g.L u.own = .pointer none := by rw [hon]; rfl
              have hov1 : ownP (G m).L u.own = .pointer none := by rw [hon]; rfl
              clear h h1 F F1 ih C T1 hr FD h3
              go_enter Try.func71, Try.ntmps71
              go_wp2_with (first
                | (go_at_call 71; (with_reducible refine HC.out.mono ?_); rintro e w2 ⟨T2, G2, rfl, hW2, ht2, hS2⟩; obtain ⟨⟨d1, d2, d3, d4, d5, d6⟩, d7, d8, d9, d10⟩ := K1.out _ _ ht2; have HW2 := Lib.hid hW2; have Ht2 := Lib.hid ht2; have HS2 := Lib.hid hS2; clear hW2 ht2 hS2; simp only [useV, hov1]))
              refine ret_use rfl rfl (b := w.heap.size) (v0 := iV u.at_) (v1 := iV u.index) (v2 := .bool false) (v3 := .pointer none) (by simp [go_sem, *]) (by simp [go_sem, *]) (by simp [go_sem, *]) (by simp [go_sem, *]) rfl ?_
              exact ⟨T2, G2, by rw [hG]; simp only [useV, hov2], ((((HW2.out.setFree d1 0 _).setFree d1 1 _).setFree d1 2 _).setFree d1 3 _).alloc _, ((((((HT.out.trans Ht2.out).setNew (Nat.le_refl _) _).setNew (Nat.le_refl _) _).setNew (Nat.le_refl _) _).setNew (Nat.le_refl _) _).alloc _ fun _ _ => rfl), HS2.out⟩
            · simp only [if_neg h3]
              have hq : ((u.at_ : Int) == 3) = false := beq_eq_false_iff_ne.2 (by omega)
              by_cases h6 : f.ups.length = 60
              · simp only [if_pos h6]
                obtain ⟨ov, hov⟩ : ∃ ov, ownP (G m).L u.own = .pointer ov := ptrO_form _
                have CU := fun (w2 : World) (T2 : Own) (G2 : Nat → Gh) (hW2 : WAt w2 T2 lo p G2 vn { st with fns := fns1 }) => addUp_full (hW2.alloc (.cells #[iV u.at_, iV u.index, .bool false, .pointer ov] 103)) hf1 s l [iV u.at_, iV u.index, .bool false, .pointer ov] ⟨_, _, _, _, rfl⟩ h6
                replace CU := Lib.hid CU
                clear h h1 F F1 ih C T1 hr FD
                go_enter Try.func71, Try.ntmps71
                go_wp2_with (first
                  | (go_at_call 71; (with_reducible refine HC.out.mono ?_); rintro e w2 ⟨T2, G2, rfl, hW2, ht2, hS2⟩; have HW2 := Lib.hid hW2; have Ht2 := Lib.hid ht2; have HCU := Lib.hid (CU.out w2 T2 G2 hW2); rw [hS2.b k, hG] at HCU; clear hW2 ht2 hS2; simp only [useV, hov])
                  | (go_at_call 76; (with_reducible refine HCU.out.mono ?_); rintro e w3 hB; obtain ⟨b, T', rfl, hb1, hb2, hb3⟩ := hB))
                exact ⟨rfl, BadS.after ⟨b, T', rfl, hb1, hb2, hb3⟩ ((HT.out.trans Ht2.out).alloc _ fun _ _ => rfl)⟩
              · simp only [if_neg h6]
                cases ho : u.own with
                | none =>
                  simp only [outerBox, Option.isSome_none]
                  have hov : ownP (G m).L u.own = .pointer none := by rw [ho]; rfl
                  have CU := fun (w2 : World) (T2 : Own) (G2 : Nat → Gh) (hW2 : WAt w2 T2 lo p G2 vn { st with fns := fns1 }) (_ : Still G G2) => addUp_none (hW2.alloc (.cells #[iV u.at_, iV u.index, .bool false, .pointer none] 103)) hf1 s hsl l u.at_ u.index hpl h6
                  replace CU := Lib.hid CU
                  clear h h1 F F1 ih C T1 hr FD ho
                  go_enter Try.func71, Try.ntmps71
                  go_wp2_with (first
                    | (go_at_call 71; (with_reducible refine HC.out.mono ?_); rintro e w2 ⟨T2, G2, rfl, hW2, ht2, hS2⟩; have HW2 := Lib.hid hW2; have Ht2 := Lib.hid ht2; have HS2 := Lib.hid hS2; have HCU := Lib.hid (CU.out w2 T2 G2 hW2 hS2); rw [hS2.b k, hG] at HCU; clear hW2 ht2 hS2; simp only [useV, hov])
                    | (go_at_call 76; (with_reducible refine HCU.out.mono ?_); rintro e w3 ⟨T3, G3, rfl, hW3, ht3, hS3⟩; have Ht3 := Lib.hid ((Ht2.out.alloc (T'' := T2) _ fun _ _ => rfl).trans ht3); have HW3 := Lib.hid hW3; have HS3 := Lib.hid (HS2.out.trans hS3); clear hW3 ht3 hS3; obtain ⟨⟨d1, d2, d3, d4, d5, d6⟩, d7, d8, d9, d10⟩ := K1.out _ _ Ht3.out))
                  refine ret_use rfl rfl (b := w.heap.size) (v0 := iV 2) (v1 := iV f.ups.length) (v2 := .bool false) (v3 := .pointer none) (by simp [go_sem, *]) (by simp [go_sem, *]) (by simp [go_sem, *]) (by simp [go_sem, *]) rfl ?_
                  exact ⟨T3, G3, rfl, (((HW3.out.setFree d1 0 _).setFree d1 1 _).setFree d1 2 _).setFree d1 3 _, ((((HT.out.trans Ht3.out).setNew (Nat.le_refl _) _).setNew (Nat.le_refl _) _).setNew (Nat.le_refl _) _).setNew (Nat.le_refl _) _, HS3.out⟩
                | some j =>
                  simp only [outerBox, Option.isSome_some]
                  have hov : ownP (G m).L u.own = pV ((G m).L j) := by rw [ho]; rfl
                  obtain ⟨_, fm, hfm, hjl⟩ := FD.own m r j rfl ho
                  have hmk : m ≠ k := fun e => hkr (by rw [e]; simp)
                  have CU := fun (w2 : World) (T2 : Own) (G2 : Nat → Gh) (hW2 : WAt w2 T2 lo p G2 vn { st with fns := fns1 }) (hS : Still G G2) => by
                    have := addUp_some (hW2.alloc (.cells #[iV u.at_, iV u.index, .bool false, pV ((G m).L j)] 103)) hf1 hfm hmk hjl s hsl l u.at_ u.index hpl h6
                    rw [hS.L m] at this
                    exact this
                  replace CU := Lib.hid CU
                  clear h h1 F F1 ih C T1 hr FD ho
                  go_enter Try.func71, Try.ntmps71
                  go_wp2_with (first
                    | (go_at_call 71; (with_reducible refine HC.out.mono ?_); rintro e w2 ⟨T2, G2, rfl, hW2, ht2, hS2⟩; have HW2 := Lib.hid hW2; have Ht2 := Lib.hid ht2; have HS2 := Lib.hid hS2; have HCU := Lib.hid (CU.out w2 T2 G2 hW2 hS2); rw [hS2.b k, hG] at HCU; clear hW2 ht2 hS2; simp only [useV, hov])
                    | (go_at_call 76; (with_reducible refine HCU.out.mono ?_); rintro e w3 ⟨T3, G3, rfl, hW3, ht3, hS3⟩; have Ht3 := Lib.hid ((Ht2.out.alloc (T'' := T2) _ fun _ _ => rfl).trans ht3); have HW3 := Lib.hid hW3; have HS3 := Lib.hid (HS2.out.trans hS3); clear hW3 ht3 hS3; obtain ⟨⟨d1, d2, d3, d4, d5, d6⟩, d7, d8, d9, d10⟩ := K1.out _ _ Ht3.out))
                  refine ret_use rfl rfl (b := w.heap.size) (v0 := iV 2) (v1 := iV f.ups.length) (v2 := .bool false) (v3 := .pointer none) (by simp [go_sem, *]) (by simp [go_sem, *]) (by simp [go_sem, *]) (by simp [go_sem, *]) rfl ?_
                  exact ⟨T3, G3, rfl, (((HW3.out.setFree d1 0 _).setFree d1 1 _).setFree d1 2 _).setFree d1 3 _, ((((HT.out.trans Ht3.out).setNew (Nat.le_refl _) _).setNew (Nat.le_refl _) _).setNew (Nat.le_refl _) _).setNew (Nat.le_refl _) _, HS3.out⟩
end Go.Proofs.Ytlbbbfmnghcdnaa
