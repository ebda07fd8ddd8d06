/- scope: what a function's names are, in the end. -/
import Derived.Test.YtlbbbfmnghcdnaaScAll
namespace Go.Proofs.Ytlbbbfmnghcdnaa
set_option maxRecDepth 20000
open Go.RowKit Go.Maps

def boxedOf (ls : List LocS) (o : Option Nat) : Bool := match o with
  | some i => (ls.getD i default).boxed
  | none => false
def useR (ls : List LocS) (u : UseS) : List Value := [iV u.at_, iV u.index, .bool (boxedOf ls u.own)]
def declR (l : LocS) : List Value := [iV l.reg, .bool l.boxed]
theorem use_info3 : (Try.prog.info? 40).map (fun i => (i.zero, i.size, i.bytes)) = some (some (.agg #[.int .i64 0, .int .i64 0, .bool false]), 3, 24) := by kernel_rfl
theorem decl_info : (Try.prog.info? 44).map (fun i => (i.zero, i.size, i.bytes)) = some (some (.agg #[.int .i64 0, .bool false]), 2, 16) := by kernel_rfl
theorem three_new (w : World) (x y z : Value) (E : TypeId) : ∀ j v, [x, y, z][j]? = some v → (w.alloc (.cells #[x, y, z] E)).cell? ((⟨w.heap.size, 0, none⟩ : Addr).add j) = some v := by
  intro j v hu
  match j, hu with
  | 0, hu => simp at hu; subst hu; simp [Addr.add, go_sem]
  | 1, hu => simp at hu; subst hu; simp [Addr.add, go_sem]
  | 2, hu => simp at hu; subst hu; simp [Addr.add, go_sem]
/-- The struct under way: its block, its three slices, the first two of them of the call's own. -/
structure ScopeIn (w0 w : World) (H : Nat) (lu ld : List Value) (nu nd : Nat) (vp vu vd : Value) : Prop where
  c0 : w.cell? ⟨H, 0, none⟩ = some vu
  c1 : w.cell? ⟨H, 1, none⟩ = some vd
  c2 : w.cell? ⟨H, 2, none⟩ = some vp
  warm : ∀ o, w.frozen? ⟨H, o, none⟩ = false
  ru : w.ownsRow (H + 1) 40 3 vu nu lu
  rd : w.ownsRow (H + 1) 44 2 vd nd ld
  lt : H < w.heap.size
  below : Below w0.heap.size w0 w
  ge : w0.heap.size ≤ H
theorem ScopeIn.alloc {w0 w : World} {H nu nd : Nat} {lu ld : List Value} {vp vu vd : Value} (h : ScopeIn w0 w H lu ld nu nd vp vu vd) (o : Obj) : ScopeIn w0 (w.alloc o) H lu ld nu nd vp vu vd :=
  ⟨(World.cell?_alloc_lt _ _ ⟨H, 0, none⟩ h.lt).trans h.c0, (World.cell?_alloc_lt _ _ ⟨H, 1, none⟩ h.lt).trans h.c1, (World.cell?_alloc_lt _ _ ⟨H, 2, none⟩ h.lt).trans h.c2, fun k => (World.frozen?_of_block (a := ⟨H, k, none⟩) (Below.heap_alloc _ _ _ h.lt)).trans (h.warm k), h.ru.alloc o, h.rd.alloc o, by have := h.lt; simp; omega, h.below.alloc (Nat.le_trans h.ge (Nat.le_of_lt h.lt)) _, h.ge⟩
theorem ScopeIn.drew {w0 w : World} {H nu nd : Nat} {lu ld : List Value} {vp vu vd : Value} (h : ScopeIn w0 w H lu ld nu nd vp vu vd) : ScopeIn w0 w.drew H lu ld nu nd vp vu vd :=
  ⟨h.c0, h.c1, h.c2, h.warm, row_keep h.ru fun _ _ => rfl, row_keep h.rd fun _ _ => rfl, h.lt, ⟨h.below.os, h.below.tape, h.below.output, h.below.size, h.below.block⟩, h.ge⟩
/-- Two rows of unlike elements lie apart. -/
theorem rows_apart {w : World} {lo lo' : Nat} {e e' : TypeId} {size size' n n' : Nat} {v v' : Value} {xs xs' : List Value} (h : w.ownsRow lo e size v n xs) (h' : w.ownsRow lo' e' size' v' n' xs') (he : e ≠ e') : ∀ k, v.ownBlock = some k → v'.ownBlock ≠ some k := by
  intro k h1 h2
  rcases h.2 with ⟨rfl, _⟩ | ⟨g, cap, cur, rfl, _, hg, _⟩
  · simp [Value.ownBlock] at h1
  · rcases h'.2 with ⟨rfl, _⟩ | ⟨g', cap', cur', rfl, _, hg', _⟩
    · simp [Value.ownBlock] at h2
    · have a : g = k := by simpa [Value.ownBlock] using h1
      have b : g' = k := by simpa [Value.ownBlock] using h2
      subst a; subst b
      rw [hg] at hg'
      injection hg' with hg'
      injection hg' with _ e1 _
      exact he e1
theorem ScopeIn.pushU {w0 w w' : World} {H nu nd r cap : Nat} {lu ld news : List Value} {vp vu vd V : Value} (h : ScopeIn w0 w H lu ld nu nd vp vu vd) (hV : V = .slice (some ⟨r, 0, none⟩) (nu + 1) cap) (ho : w'.ownsRow (H + 1) 40 3 V (nu + 1) (lu ++ news)) (hg : w.grownBy w' vu.ownBlock) (hat : vu.ownBlock = some r ∨ r = w.heap.size) :
    ScopeIn w0 (w'.setCell ⟨H, 0, none⟩ V) H (lu ++ news) ld (nu + 1) nd vp V vd := by
  have hne : some H ≠ vu.ownBlock := fun e => by have := (h.ru.lt H e.symm).1; omega
  have C : ∀ j, w'.cell? ⟨H, j, none⟩ = w.cell? ⟨H, j, none⟩ := fun j => hg.cell_far ⟨H, j, none⟩ h.lt hne
  have hr : r ≠ H := by
    rintro rfl
    rcases hat with e | e
    · exact hne e.symm
    · have := h.lt; omega
  refine ⟨World.cell?_setCell_same _ _ _ ((C 0).trans h.c0), (cell_set_other (by decide) _).trans ((C 1).trans h.c1), (cell_set_other (by decide) _).trans ((C 2).trans h.c2), fun k => (World.frozen?_setCell _ _ _ _).trans ((hg.frozen_far ⟨H, k, none⟩ h.lt hne).trans (h.warm k)), row_keep ho fun k hk => ?_, row_keep (row_keep h.rd fun k hk => hg.block k (row_lt h.rd hk) (fun e => rows_apart h.rd h.ru (by decide) k hk e.symm)) fun k hk => Below.heap_setCell _ _ _ _ (show k ≠ H from fun e => by subst e; have := (h.rd.lt k hk).1; omega), by have := h.lt; have := hg.size; simp [World.setCell]; omega, ?_, h.ge⟩
  · have e : r = k := by rw [hV] at hk; simpa [Value.ownBlock] using hk
    subst e
    exact Below.heap_setCell _ _ _ _ (show r ≠ H from hr)
  · have hb : Below w0.heap.size w0 w' := h.below.grown hg h.below.size fun k hk => by have := (h.ru.lt k hk).1; have := h.ge; omega
    exact ⟨hb.os, hb.tape, hb.output, by simpa [World.setCell] using hb.size, fun k hk => (Below.heap_setCell _ _ _ _ (show k ≠ H by have := h.ge; omega)).trans (hb.block k hk)⟩
theorem ScopeIn.pushD {w0 w w' : World} {H nu nd r cap : Nat} {lu ld news : List Value} {vp vu vd V : Value} (h : ScopeIn w0 w H lu ld nu nd vp vu vd) (hV : V = .slice (some ⟨r, 0, none⟩) (nd + 1) cap) (ho : w'.ownsRow (H + 1) 44 2 V (nd + 1) (ld ++ news)) (hg : w.grownBy w' vd.ownBlock) (hat : vd.ownBlock = some r ∨ r = w.heap.size) :
    ScopeIn w0 (w'.setCell ⟨H, 1, none⟩ V) H lu (ld ++ news) nu (nd + 1) vp vu V := by
  have hne : some H ≠ vd.ownBlock := fun e => by have := (h.rd.lt H e.symm).1; omega
  have C : ∀ j, w'.cell? ⟨H, j, none⟩ = w.cell? ⟨H, j, none⟩ := fun j => hg.cell_far ⟨H, j, none⟩ h.lt hne
  have hr : r ≠ H := by
    rintro rfl
    rcases hat with e | e
    · exact hne e.symm
    · have := h.lt; omega
  refine ⟨(cell_set_other (by decide) _).trans ((C 0).trans h.c0), World.cell?_setCell_same _ _ _ ((C 1).trans h.c1), (cell_set_other (by decide) _).trans ((C 2).trans h.c2), fun k => (World.frozen?_setCell _ _ _ _).trans ((hg.frozen_far ⟨H, k, none⟩ h.lt hne).trans (h.warm k)), row_keep (row_keep h.ru fun k hk => hg.block k (row_lt h.ru hk) (fun e => rows_apart h.ru h.rd (by decide) k hk e.symm)) fun k hk => Below.heap_setCell _ _ _ _ (show k ≠ H from fun e => by subst e; have := (h.ru.lt k hk).1; omega), row_keep ho fun k hk => ?_, by have := h.lt; have := hg.size; simp [World.setCell]; omega, ?_, h.ge⟩
  · have e : r = k := by rw [hV] at hk; simpa [Value.ownBlock] using hk
    subst e
    exact Below.heap_setCell _ _ _ _ (show r ≠ H from hr)
  · have hb : Below w0.heap.size w0 w' := h.below.grown hg h.below.size fun k hk => by have := (h.rd.lt k hk).1; have := h.ge; omega
    exact ⟨hb.os, hb.tape, hb.output, by simpa [World.setCell] using hb.size, fun k hk => (Below.heap_setCell _ _ _ _ (show k ≠ H by have := h.ge; omega)).trans (hb.block k hk)⟩
theorem flat_get {α β : Type} {f : α → List β} {m : Nat} (hf : ∀ a, (f a).length = m) : ∀ (l : List α) (j k : Nat) (a : α), l[j]? = some a → k < m → (l.flatMap f)[j * m + k]? = (f a)[k]?
  | [], j, k, a, h, _ => by simp at h
  | x :: r, 0, k, a, h, hk => by
    have : x = a := by simpa using h
    subst this
    rw [List.flatMap_cons, Nat.zero_mul, Nat.zero_add, List.getElem?_append_left (by rw [hf]; exact hk)]
  | x :: r, j + 1, k, a, h, hk => by
    rw [List.flatMap_cons, List.getElem?_append_right (by rw [hf, Nat.add_mul]; omega), hf, ← flat_get hf r j k a (by simpa using h) hk]
    congr 1
    rw [Nat.add_mul]; omega
theorem take_more {α : Type} {l : List α} {j : Nat} {a : α} (h : l[j]? = some a) : l.take (j + 1) = l.take j ++ [a] := by rw [List.take_add_one, h]; rfl
theorem below_cell {w0 w : World} {a : Addr} {v : Value} (hb : Below w0.heap.size w0 w) (h : w0.cell? a = some v) : w.cell? a = some v := (hb.cell (World.block_lt_of_cell? _ _ h)).trans h
theorem load_scope {W : World} {b : Nat} {v0 v1 v2 : Value} (h0 : W.cell? ⟨b, 0, none⟩ = some v0) (h1 : W.cell? ⟨b, 1, none⟩ = some v1) (h2 : W.cell? ⟨b, 2, none⟩ = some v2) :
    (loadVar 38 ⟨b, 0, none⟩).run Try.prog W = .ok (.agg #[v0, v1, v2]) W := by
  have ha := Try.isAgg38
  simp only [loadVar, Sem.run_bind, ha, Result.andThen]
  simp [go_sem, h0, h1, h2]
theorem ret_scope {fn : Func} {R : Ending → World → Prop} {a : Act} {W : World} {p : Tmp} {b : Nat} {v0 v1 v2 : Value} (h : fn.results = #[.cell p 38]) (hp : a.tmps.getD p undef = .pointer (some ⟨b, 0, none⟩))
    (h0 : W.cell? ⟨b, 0, none⟩ = some v0) (h1 : W.cell? ⟨b, 1, none⟩ = some v1) (h2 : W.cell? ⟨b, 2, none⟩ = some v2) (hd : a.defers = [])
    (hR : R (.returned (.agg #[v0, v1, v2])) W) : bodyPost Try.prog fn R .ret a W := by
  refine bodyPost_ret (v := .agg #[v0, v1, v2]) ?_ hd hR
  rw [results_cell h, hp]
  simp only [asAddr, Sem.run_pure, Result.andThen_ok, load_scope h0 h1 h2]
theorem own_slice {w : World} {lo : Nat} {e : TypeId} {size n : Nat} {v : Value} {xs : List Value} (h : w.ownsRow lo e size v n xs) : ∃ A c, v = .slice A n c := by
  rcases row_form h with ⟨rfl, rfl⟩ | ⟨g, cap, rfl, _⟩
  · exact ⟨_, _, rfl⟩
  · exact ⟨_, _, rfl⟩
/-- What scope answers. -/
structure ScopeOut (w0 : World) (f : FnS) (vp : Value) (w : World) (vu vd : Value) : Prop where
  ru : w.ownsRow (w0.heap.size + 1 + 1) 40 3 vu f.uses.length (f.uses.flatMap (useR f.locals))
  rd : w.ownsRow (w0.heap.size + 1 + 1) 44 2 vd f.locals.length (f.locals.flatMap declR)
  below : Below w0.heap.size w0 w
set_option maxHeartbeats 4000000 in
theorem scope_any {w : World} {T : Own} {lo n : Nat} {g : Gh} {f : FnS} (F : FnAt w T lo n g f) : Calls Try.prog 35 #[pV g.b] w fun e w' => ∃ vu vd, e = .returned (.agg #[vu, vd, g.vp]) ∧ ScopeOut w f g.vp w' vu vd := by
  obtain ⟨i9, hii, hz0, hz1, hz2⟩ := info_parts use_info3
  obtain ⟨i8, hii8, hz08, hz18, hz28⟩ := info_parts decl_info
  obtain ⟨Au, cu, hvu, hcu, hcum⟩ := slice_form F.ru
  obtain ⟨Al, cl, hvl, hcl, hclm⟩ := slice_form F.rl
  obtain ⟨Ap, cp, hvp, hcp, hcpm⟩ := slice_form F.rp
  have c0 := F.hd.c0
  have c5 := F.hd.c5
  have c6 := F.hd.c6
  rw [hvu] at c5
  rw [hvl] at c0
  have hbl := F.b_lt
  have hlu := F.len_u
  have hll := F.len_l
  rw [hvp] at c6 ⊢
  have HF := Lib.hid F
  clear F
  go_enter Try.func35, Try.ntmps35
  go_wp2_with fail
  obtain ⟨W1, hW1⟩ : ∃ W1, w.alloc (.cells #[.slice none 0 0, .slice none 0 0, .slice none 0 0] 38) = W1 := ⟨_, rfl⟩
  have hz1' : W1.heap.size = w.heap.size + 1 := by rw [← hW1]; simp
  have hb1 : Below w.heap.size w W1 := by rw [← hW1]; exact (Below.refl _ _).alloc (Nat.le_refl _) _
  have hr0 : (∀ j, j < 3 → ∃ v, W1.cell? ⟨w.heap.size, j, none⟩ = some v) ∧ ∀ j, W1.frozen? ⟨w.heap.size, j, none⟩ = false := by
    rw [← hW1]
    refine ⟨fun j hj => ?_, fun j => by simp [go_sem]⟩
    match j, hj with
    | 0, _ => exact ⟨.slice none 0 0, by simp [go_sem]⟩
    | 1, _ => exact ⟨.slice none 0 0, by simp [go_sem]⟩
    | 2, _ => exact ⟨.slice none 0 0, by simp [go_sem]⟩
  have SI : ScopeIn W1 (W1.alloc (.cells #[.slice none 0 0, .slice none 0 0, .slice Ap f.ups.length cp] 38)) (w.heap.size + 1) [] [] 0 0 (.slice Ap f.ups.length cp) (.slice none 0 0) (.slice none 0 0) := by
    rw [← hz1']
    exact ⟨by simp [go_sem], by simp [go_sem], by simp [go_sem], fun o => by simp [go_sem], World.ownsRow_nil _ _ _ _, World.ownsRow_nil _ _ _ _, by simp, (Below.refl _ _).alloc (Nat.le_refl _) _, Nat.le_refl _⟩
  have HSI := Lib.hid SI
  have Hb1 := Lib.hid hb1
  have Hr0 := Lib.hid hr0
  rw [hW1]
  clear SI hb1 hr0 hW1 c0 c5 c6
  go_loopg [18] f.uses.length (fun m v wr => ∃ (i : Nat) (vu : Value), v = iV i ∧ i + m = f.uses.length ∧ Hid (ScopeIn W1 wr (w.heap.size + 1) ((f.uses.take i).flatMap (useR f.locals)) [] i 0 (.slice Ap f.ups.length cp) vu (.slice none 0 0)))
  case atStart => exact ⟨0, .slice none 0 0, rfl, by simp, HSI⟩
  case round =>
    obtain ⟨i, vu, rfl, him, hS⟩ := hrel
    clear HSI
    have hbw : Below w.heap.size w wr := Hb1.out.trans (hS.out.below.mono (by omega))
    have Hbw := Lib.hid hbw
    have s0 := hS.out.c0
    have sz := hS.out.warm 0
    have sl := hS.out.lt
    cases gk with
    | zero =>
      have hi : i = f.uses.length := by omega
      subst hi
      have hS1 := hS.out
      rw [List.take_length] at hS1
      have HS1 := Lib.hid hS1
      have x0 := below_cell hbw HF.out.hd.c0
      rw [hvl] at x0
      clear hS1 hS s0 sz sl hbw
      go_wp2_with fail
      go_loopg [47] f.locals.length (fun m v wr => ∃ (i : Nat) (vd : Value), v = iV i ∧ i + m = f.locals.length ∧ Hid (ScopeIn W1 wr (w.heap.size + 1) (f.uses.flatMap (useR f.locals)) ((f.locals.take i).flatMap declR) f.uses.length i (.slice Ap f.ups.length cp) vu vd))
      case atStart => exact ⟨0, .slice none 0 0, rfl, by simp, HS1⟩
      case round =>
        obtain ⟨i, vd, rfl, him, hS⟩ := hrel
        clear HS1
        have hbw : Below w.heap.size w wr := Hb1.out.trans (hS.out.below.mono (by omega))
        have Hbw := Lib.hid hbw
        have s1 := hS.out.c1
        have sz := hS.out.warm 1
        have sl := hS.out.lt
        cases gk with
        | zero =>
          have hi : i = f.locals.length := by omega
          subst hi
          have hS1 := hS.out
          rw [List.take_length] at hS1
          have HS1 := Lib.hid hS1
          have t0 := hS1.c0
          have t2 := hS1.c2
          have hwl : w.heap.size < wr.heap.size := by omega
          have R : ∀ j, wr.cell? ⟨w.heap.size, j, none⟩ = W1.cell? ⟨w.heap.size, j, none⟩ := fun j => hS1.below.cell (p := ⟨w.heap.size, j, none⟩) (by simp; omega)
          have Z : ∀ j, wr.frozen? ⟨w.heap.size, j, none⟩ = W1.frozen? ⟨w.heap.size, j, none⟩ := fun j => hS1.below.frozen (p := ⟨w.heap.size, j, none⟩) (by simp; omega)
          obtain ⟨v0, g0⟩ := Hr0.out.1 0 (by decide)
          obtain ⟨v1, g1⟩ := Hr0.out.1 1 (by decide)
          obtain ⟨v2, g2⟩ := Hr0.out.1 2 (by decide)
          have e0 := (R 0).trans g0
          have e1 := (R 1).trans g1
          have e2 := (R 2).trans g2
          have z0 := (Z 0).trans (Hr0.out.2 0)
          have z1 := (Z 1).trans (Hr0.out.2 1)
          have z2 := (Z 2).trans (Hr0.out.2 2)
          obtain ⟨Bu, bu, rfl⟩ := own_slice hS1.ru
          obtain ⟨Bd, bd, rfl⟩ := own_slice hS1.rd
          clear hS1 hS R Z g0 g1 g2 hbw
          go_wp2_with fail
          refine ret_scope rfl rfl (b := w.heap.size) (v0 := .slice Bu f.uses.length bu) (v1 := .slice Bd f.locals.length bd) (v2 := .slice Ap f.ups.length cp) (by simp [go_sem, *]) (by simp [go_sem, *]) (by simp [go_sem, *]) rfl ?_
          have N3 : ∀ k, k ≠ w.heap.size → (((wr.setCell ⟨w.heap.size, 0, none⟩ (.slice Bu f.uses.length bu)).setCell ⟨w.heap.size, 1, none⟩ (.slice Bd f.locals.length bd)).setCell ⟨w.heap.size, 2, none⟩ (.slice Ap f.ups.length cp)).heap[k]? = wr.heap[k]? := fun k hk => (Below.heap_setCell _ _ _ _ (show k ≠ w.heap.size from hk)).trans ((Below.heap_setCell _ _ _ _ (show k ≠ w.heap.size from hk)).trans (Below.heap_setCell _ _ _ _ (show k ≠ w.heap.size from hk)))
          have hB := Hbw.out
          refine ⟨_, _, rfl, row_keep HS1.out.ru fun k hk => N3 k (by have := (HS1.out.ru.lt k hk).1; omega), row_keep HS1.out.rd fun k hk => N3 k (by have := (HS1.out.rd.lt k hk).1; omega), ⟨hB.os, hB.tape, hB.output, by have := hB.size; simpa [World.setCell] using this, fun k hk => (N3 k (by omega)).trans (hB.block k hk)⟩⟩
        | succ m =>
          obtain ⟨l, hl⟩ : ∃ l, f.locals[i]? = some l := ⟨_, List.getElem?_eq_getElem (by omega)⟩
          obtain ⟨Ad', cd', hvd', hcd', hcdm'⟩ : ∃ A c, vd = .slice A i c ∧ i ≤ c ∧ c ≤ maxLen := by
            rcases row_form hS.out.rd with ⟨rfl, h0⟩ | ⟨g, cap, rfl, _, h1, h2⟩
            · subst h0; exact ⟨none, 0, rfl, Nat.le_refl _, by decide⟩
            · exact ⟨_, cap, rfl, h1, h2⟩
          subst hvd'
          obtain ⟨rl, hrl⟩ : ∃ rl, Al = some ⟨rl, 0, none⟩ := by
            rcases row_form HF.out.rl.row with ⟨h0, h1⟩ | ⟨g', cap, h0, _, _, _⟩
            · omega
            · rw [hvl] at h0; injection h0 with h0; exact ⟨g', h0⟩
          subst hrl
          have hrow := HF.out.rl.row
          rw [hvl] at hrow
          have d0 := below_cell hbw (row_cell hrow (j := i) (u := pV (g.L i)) (by unfold locV; rw [List.getElem?_map, List.getElem?_range (by omega)]; rfl))
          obtain ⟨_, xL, cL⟩ := HF.out.ls.loc i l hl
          have e0 := below_cell hbw cL.c0
          have e1 := below_cell hbw cL.c1
          have hjl := Nat.lt_of_lt_of_le cL.lt hbw.size
          obtain ⟨bj, hbj⟩ : ∃ bj, l.boxed = bj := ⟨_, rfl⟩
          obtain ⟨rj, hrj⟩ : ∃ rj, l.reg = rj := ⟨_, rfl⟩
          rw [hbj] at e1
          rw [hrj] at e0
          obtain ⟨Lj, hLj⟩ : ∃ Lj, g.L i = Lj := ⟨_, rfl⟩
          rw [hLj] at d0 e0 e1 hjl
          have q0 : (0 : Int) ≤ (i : Int) := by omega
          have q1 : (i : Int) < (f.locals.length : Int) := by omega
          have S2 := (hS.out.alloc (.cells #[iV rj, .bool bj] 44)).drew
          have n2 := two_drew wr (iV rj) (.bool bj) 44
          obtain ⟨W2, hW2⟩ : ∃ W2, (wr.alloc (.cells #[iV rj, .bool bj] 44)).drew = W2 := ⟨_, rfl⟩
          have hz2' : wr.heap.size < W2.heap.size := by rw [← hW2]; simp
          rw [hW2] at S2 n2
          have HS2 := Lib.hid S2
          have N2 := Lib.hid n2
          have Hl := Lib.hid hl
          have Hbj := Lib.hid hbj
          have Hrj := Lib.hid hrj
          have HW2 := Lib.hid hW2
          clear hl hbj hrj cL hLj S2 n2 hrow hbw hW2
          go_wp2_with fail
          go_region_law (rw [HW2.out]; refine step_append_lies _ rfl (.tmp 52) (.tmp 57) 35 rfl (w.heap.size + 1 + 1) 44 i8 _ 2 16 Try.underlying35 hii8 hz08 hz18 hz28 rfl (by decide) (.slice Ad' i cd') i _ rfl HS2.out.rd ⟨wr.heap.size, 0, none⟩ 1 1 [iV rj, .bool bj] rfl rfl N2.out (by simp [Value.oneCell']) (by decide) (by unfold maxLen; omega) (by omega) (by omega) _ rfl ?_; intro r cap w4 hown4 hgrow4 hat4 hlt4; have SP := Lib.hid (HS2.out.pushD rfl hown4 hgrow4 hat4); have hne : some (w.heap.size + 1) ≠ Value.ownBlock (.slice Ad' i cd') := (fun e => by have := (HS2.out.rd.lt _ e.symm).1; omega); have e0 := (hgrow4.cell_far ⟨w.heap.size + 1, 1, none⟩ HS2.out.lt hne).trans HS2.out.c1; have e1 := (hgrow4.frozen_far ⟨w.heap.size + 1, 1, none⟩ HS2.out.lt hne).trans (HS2.out.warm 1))
          all_goals
            go_wp2_with fail
            go_roundg m
            case measure => omega
            case rel =>
              refine ⟨i + 1, .slice (some ⟨r, 0, none⟩) (i + 1) cap, by simp, by omega, Lib.hid ?_⟩
              have e : (f.locals.take (i + 1)).flatMap declR = (f.locals.take i).flatMap declR ++ [iV rj, .bool bj] := by
                have eu : declR l = [iV rj, .bool bj] := by unfold declR; rw [Hrj.out, Hbj.out]
                rw [take_more Hl.out, List.flatMap_append]
                simp [eu]
              rw [e]
              exact SP.out
    | succ m =>
      obtain ⟨u, hu⟩ : ∃ u, f.uses[i]? = some u := ⟨_, List.getElem?_eq_getElem (by omega)⟩
      obtain ⟨Au', cu', hvu', hcu', hcum'⟩ : ∃ A c, vu = .slice A i c ∧ i ≤ c ∧ c ≤ maxLen := by
        rcases row_form hS.out.ru with ⟨rfl, h0⟩ | ⟨g, cap, rfl, _, h1, h2⟩
        · subst h0; exact ⟨none, 0, rfl, Nat.le_refl _, by decide⟩
        · exact ⟨_, cap, rfl, h1, h2⟩
      subst hvu'
      obtain ⟨ru, hru⟩ : ∃ ru, Au = some ⟨ru, 0, none⟩ := by
        rcases row_form HF.out.ru.row with ⟨h0, h1⟩ | ⟨g', cap, h0, _, _, _⟩
        · omega
        · rw [hvu] at h0; injection h0 with h0; exact ⟨g', h0⟩
      subst hru
      have hrow := HF.out.ru.row
      rw [hvu] at hrow
      have hcell : ∀ k v, (useC g.L u)[k]? = some v → k < 4 → wr.cell? ⟨ru, i * 4 + k, none⟩ = some v := fun k v hk hk4 => below_cell hbw (row_cell hrow ((flat_get (f := useC g.L) (m := 4) (fun _ => rfl) f.uses i k u hu hk4).trans hk))
      have d0 := hcell 0 _ rfl (by decide)
      have d1 := hcell 1 _ rfl (by decide)
      have d2 := hcell 2 _ rfl (by decide)
      have d3 := hcell 3 _ rfl (by decide)
      rw [Nat.add_zero] at d0
      have q0 : (0 : Int) ≤ (i : Int) := by omega
      have q1 : (i : Int) < (f.uses.length : Int) := by omega
      have Hu := Lib.hid hu
      clear hu hcell hrow hbw
      cases ho : u.own with
      | none =>
        rw [ho] at d3
        simp only [ownP, Option.map_none, ptrO] at d3
        have Ho := Lib.hid ho
        clear ho
        have S2 := Lib.hid (((hS.out.alloc (.cells #[iV u.at_, iV u.index, .bool false, .pointer none] 103)).alloc (.cells #[iV u.at_, iV u.index, .bool false] 40)))
        have n2 := three_new (wr.alloc (.cells #[iV u.at_, iV u.index, .bool false, .pointer none] 103)) (iV u.at_) (iV u.index) (.bool false) 40
        rw [World.size_alloc] at n2
        have N2 := Lib.hid n2
        clear n2
        go_wp2_with (first
          | (at_builtin; refine wpList_append_lies _ rfl (.tmp 34) (.tmp 37) 34 rfl (w.heap.size + 1 + 1) 40 i9 _ 3 24 Try.underlying34 hii hz0 hz1 hz2 rfl (by decide) (.slice Au' i cu') i _ rfl S2.out.ru ⟨wr.heap.size + 1, 0, none⟩ 1 1 [iV u.at_, iV u.index, .bool false] rfl rfl N2.out (by simp [Value.oneCell']) (by decide) (by unfold maxLen; omega) (by omega) (by simp; omega) _ rfl ?_; intro r cap w4 hown4 hgrow4 hat4 hlt4; have SP := Lib.hid (S2.out.pushU rfl hown4 hgrow4 hat4); have hne : some (w.heap.size + 1) ≠ Value.ownBlock (.slice Au' i cu') := (fun e => by have := (S2.out.ru.lt _ e.symm).1; omega); have e0 := (hgrow4.cell_far ⟨w.heap.size + 1, 0, none⟩ S2.out.lt hne).trans S2.out.c0; have e1 := (hgrow4.frozen_far ⟨w.heap.size + 1, 0, none⟩ S2.out.lt hne).trans (S2.out.warm 0)))
        go_roundg m
        case measure => omega
        case rel =>
          refine ⟨i + 1, .slice (some ⟨r, 0, none⟩) (i + 1) cap, by simp, by omega, Lib.hid ?_⟩
          have e : (f.uses.take (i + 1)).flatMap (useR f.locals) = (f.uses.take i).flatMap (useR f.locals) ++ [iV u.at_, iV u.index, .bool false] := by
            rw [take_more Hu.out, List.flatMap_append]
            have eu : useR f.locals u = [iV u.at_, iV u.index, .bool false] := by unfold useR; rw [Ho.out]; rfl
            simp [eu]
          rw [e]
          exact SP.out
      | some j =>
        rw [ho] at d3
        simp only [ownP, Option.map_some, ptrO] at d3
        have hj := HF.out.own_lt u (List.mem_of_getElem? Hu.out) j ho
        obtain ⟨lj, hlj⟩ : ∃ lj, f.locals[j]? = some lj := ⟨_, List.getElem?_eq_getElem hj⟩
        obtain ⟨_, xL, cL⟩ := HF.out.ls.loc j lj hlj
        have dj := below_cell Hbw.out cL.c1
        have hjl := Nat.lt_of_lt_of_le cL.lt Hbw.out.size
        obtain ⟨bj, hbj⟩ : ∃ bj, lj.boxed = bj := ⟨_, rfl⟩
        rw [hbj] at dj
        obtain ⟨Lj, hLj⟩ : ∃ Lj, g.L j = Lj := ⟨_, rfl⟩
        rw [hLj] at d3 dj hjl
        have Ho := Lib.hid ho
        have Hlj := Lib.hid hlj
        have Hbj := Lib.hid hbj
        clear ho hlj hbj cL hLj
        have S2 := Lib.hid (((hS.out.alloc (.cells #[iV u.at_, iV u.index, .bool bj, pV Lj] 103)).alloc (.cells #[iV u.at_, iV u.index, .bool bj] 40)))
        have n2 := three_new (wr.alloc (.cells #[iV u.at_, iV u.index, .bool bj, pV Lj] 103)) (iV u.at_) (iV u.index) (.bool bj) 40
        rw [World.size_alloc] at n2
        have N2 := Lib.hid n2
        clear n2
        go_wp2_with (first
          | (at_builtin; refine wpList_append_lies _ rfl (.tmp 34) (.tmp 37) 34 rfl (w.heap.size + 1 + 1) 40 i9 _ 3 24 Try.underlying34 hii hz0 hz1 hz2 rfl (by decide) (.slice Au' i cu') i _ rfl S2.out.ru ⟨wr.heap.size + 1, 0, none⟩ 1 1 [iV u.at_, iV u.index, .bool bj] rfl rfl N2.out (by simp [Value.oneCell']) (by decide) (by unfold maxLen; omega) (by omega) (by simp; omega) _ rfl ?_; intro r cap w4 hown4 hgrow4 hat4 hlt4; have SP := Lib.hid (S2.out.pushU rfl hown4 hgrow4 hat4); have hne : some (w.heap.size + 1) ≠ Value.ownBlock (.slice Au' i cu') := (fun e => by have := (S2.out.ru.lt _ e.symm).1; omega); have e0 := (hgrow4.cell_far ⟨w.heap.size + 1, 0, none⟩ S2.out.lt hne).trans S2.out.c0; have e1 := (hgrow4.frozen_far ⟨w.heap.size + 1, 0, none⟩ S2.out.lt hne).trans (S2.out.warm 0)))
        go_roundg m
        case measure => omega
        case rel =>
          refine ⟨i + 1, .slice (some ⟨r, 0, none⟩) (i + 1) cap, by simp, by omega, Lib.hid ?_⟩
          have e : (f.uses.take (i + 1)).flatMap (useR f.locals) = (f.uses.take i).flatMap (useR f.locals) ++ [iV u.at_, iV u.index, .bool bj] := by
            rw [take_more Hu.out, List.flatMap_append]
            have eu : useR f.locals u = [iV u.at_, iV u.index, .bool bj] := by
              unfold useR; rw [Ho.out]
              show [_, _, Value.bool (f.locals.getD j default).boxed] = _
              rw [getD_of Hlj.out, Hbj.out]
            simp [eu]
          rw [e]
          exact SP.out
end Go.Proofs.Ytlbbbfmnghcdnaa
