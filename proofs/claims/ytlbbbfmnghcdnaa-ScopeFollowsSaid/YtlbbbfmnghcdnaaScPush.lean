/- What becomes of a function in memory where a local, a use, a name from outside is added, a local is boxed, a block ends. No walk. -/
import Derived.Test.YtlbbbfmnghcdnaaScSmall
namespace Go.Proofs.Ytlbbbfmnghcdnaa
set_option maxRecDepth 20000
open Go.RowKit Go.Maps

theorem namedIn_congr {ls ls' : List LocS} {s : List UInt8} : ∀ {l : List Nat}, (∀ i, i ∈ l → (ls'.getD i default).name = (ls.getD i default).name) → namedIn ls' s l = namedIn ls s l
  | [], _ => rfl
  | i :: r, h => by
    simp only [namedIn]
    rw [namedIn_congr (l := r) fun j hj => h j (by simp [hj]), h i (by simp)]
theorem namedIn_one (ls : List LocS) (s : List UInt8) (i : Nat) : ∀ l : List Nat, namedIn ls s (l ++ [i]) = if (ls.getD i default).name = s then some i else namedIn ls s l
  | [] => rfl
  | j :: r => by
    simp only [List.cons_append, namedIn]
    rw [namedIn_one ls s i r]
    by_cases h : (ls.getD i default).name = s
    · rw [if_pos h, if_pos h]
    · rw [if_neg h, if_neg h]
theorem namedIn_mem {ls : List LocS} {s : List UInt8} : ∀ {l : List Nat} {i : Nat}, namedIn ls s l = some i → i ∈ l
  | j :: r, i, h => by
    simp only [namedIn] at h
    split at h
    · rename_i k hk
      injection h with h
      subst h
      exact List.mem_cons_of_mem _ (namedIn_mem hk)
    · split at h
      · injection h with h
        subst h
        simp
      · cases h
theorem namedIn_name {ls : List LocS} {s : List UInt8} : ∀ {l : List Nat} {i : Nat}, namedIn ls s l = some i → (ls.getD i default).name = s
  | j :: r, i, h => by
    simp only [namedIn] at h
    split at h
    · rename_i k hk
      injection h with h
      subst h
      exact namedIn_name hk
    · split at h
      · rename_i hn
        injection h with h
        subst h
        exact hn
      · cases h
theorem getD_more {ls : List LocS} {l : LocS} {i : Nat} (h : i < ls.length) : (ls ++ [l]).getD i default = ls.getD i default := by
  rw [List.getD_eq_getElem?_getD, List.getD_eq_getElem?_getD, List.getElem?_append_left h]
theorem getD_last (ls : List LocS) (l : LocS) : (ls ++ [l]).getD ls.length default = l := by
  rw [List.getD_eq_getElem?_getD, List.getElem?_append_right (Nat.le_refl _)]; simp
def putL (L : Nat → Nat) (i B : Nat) : Nat → Nat := fun k => if k = i then B else L k
theorem putL_same (L : Nat → Nat) (i B : Nat) : putL L i B i = B := if_pos rfl
theorem putL_other {L : Nat → Nat} {i B k : Nat} (h : k ≠ i) : putL L i B k = L k := if_neg h
theorem ownP_congr {L L' : Nat → Nat} {o : Option Nat} (h : ∀ i, o = some i → L' i = L i) : ownP L' o = ownP L o := by
  cases o with
  | none => rfl
  | some i => simp [ownP, h i rfl]
theorem LocsC.push {w : World} {T : Own} {n B : Nat} {L : Nat → Nat} {ls : List LocS} {full : List Nat} {l : LocS} {x : Value} (h : LocsC w T n L ls full) (hB : T B = some (.loc n ls.length)) (hc : LocC w B l x) : LocsC w T n (putL L ls.length B) (ls ++ [l]) full where
  loc := fun i l' hi => by
    by_cases e : i < ls.length
    · rw [List.getElem?_append_left e] at hi
      rw [putL_other (by omega)]
      exact h.loc i l' hi
    · have hi' : i < (ls ++ [l]).length := (List.getElem?_eq_some_iff.1 hi).1
      have e2 : i = ls.length := by simp at hi'; omega
      subst e2
      have : l = l' := by simpa using hi
      subst this
      rw [putL_same]
      exact ⟨hB, x, hc⟩
  hides := fun j i hi => by
    have hm := List.mem_of_getElem? hi
    have hlt := h.lt i hm
    rw [putL_other (by omega), h.hides j i hi, getD_more hlt]
    have e : namedIn (ls ++ [l]) (ls.getD i default).name (full.take j) = namedIn ls (ls.getD i default).name (full.take j) := namedIn_congr fun k hk => by rw [getD_more (h.lt k (List.mem_of_mem_take hk))]
    rw [e]
    exact congrArg some (ownP_congr fun k hk => putL_other (by have := h.lt k (List.mem_of_mem_take (namedIn_mem hk)); omega)).symm
  lt := fun i hi => by have := h.lt i hi; simp; omega

/-- What is behind an append and the store of what came of it. -/
structure Pushed (w w2 : World) (T T2 : Own) (n b i : Nat) (t : Tag) (V : Value) : Prop where
  keep : ∀ k t', k < w.heap.size → T k = some t' → t' ≠ t → t' ≠ .fn n → w2.heap[k]? = w.heap[k]? ∧ T2 k = T k
  turn : Turn (fun t => t.no = some n) T w T2 w2
  fresh : ∀ k, w2.heap.size ≤ k → T2 k = none
  cells : ∀ j, j ≠ i → w2.cell? ⟨b, j, none⟩ = w.cell? ⟨b, j, none⟩
  cell : w2.cell? ⟨b, i, none⟩ = some V
  tb : T2 b = T b
  warm : ∀ o, w2.frozen? ⟨b, o, none⟩ = w.frozen? ⟨b, o, none⟩
theorem pushed {w w' : World} {T : Own} {lo n b i r cap m m0 size : Nat} {e : TypeId} {v V : Value} {t : Tag} {xs ys : List Value} {x0 : Value} (hb : T b = some (.fn n)) (hc : w.cell? ⟨b, i, none⟩ = some x0) (hr : RowC w T lo e size v m0 xs t) (ht : t.no = some n) (htb : t ≠ .fn n) (hfr : ∀ k, w.heap.size ≤ k → T k = none)
    (hV : V = .slice (some ⟨r, 0, none⟩) m cap) (ho : w'.ownsRow lo e size V m ys) (hg : w.grownBy w' v.ownBlock) (hat : v.ownBlock = some r ∨ r = w.heap.size) (hlt : r < w'.heap.size) :
    Pushed w (w'.setCell ⟨b, i, none⟩ V) T (T.put r t) n b i t V ∧ RowC (w'.setCell ⟨b, i, none⟩ V) (T.put r t) lo e size V m ys t := by
  subst hV
  have hbl : b < w.heap.size := World.block_lt_of_cell? w _ hc
  have hbr : b ≠ r := by
    rintro rfl
    rcases hat with h | h
    · rw [hr.tag _ h] at hb; injection hb with hb; exact htb hb
    · omega
  have hT : ∀ k, k < w.heap.size → (T.put r t) k = T k := fun k hk => by
    by_cases e : k = r
    · subst e
      rcases hat with h | h
      · rw [Own.put_same, hr.tag _ h]
      · omega
    · exact Own.put_other e
  have hbv : some b ≠ v.ownBlock := fun h => by rw [hr.tag b h.symm] at hb; injection hb with hb; exact htb hb
  have hsz : (w'.setCell ⟨b, i, none⟩ (.slice (some ⟨r, 0, none⟩) m cap)).heap.size = w'.heap.size := by simp [World.setCell]
  have C : ∀ j, w'.cell? ⟨b, j, none⟩ = w.cell? ⟨b, j, none⟩ := fun j => hg.cell_far ⟨b, j, none⟩ hbl hbv
  refine ⟨⟨fun k t' hk h1 h2 h3 => ⟨?_, hT k hk⟩, ?_, ?_, fun j hj => (cell_set_other (Ne.symm hj) _).trans (C j), World.cell?_setCell_same _ _ _ ((C i).trans hc), hT b hbl, fun o => (World.frozen?_setCell w' _ _ _).trans (hg.frozen_far ⟨b, o, none⟩ hbl hbv)⟩, ?_⟩
  · refine (Below.heap_setCell _ _ _ _ (show k ≠ b from fun e => by subst e; rw [h1] at hb; injection hb with hb; exact h3 hb)).trans (hg.block k hk fun e => ?_)
    have := hr.tag k e.symm
    rw [h1] at this; injection this with this; exact h2 this
  · refine ((Turn.refl (fun t => t.no = some n) T w).grown hg (fun k hk => ⟨t, hr.tag k hk, ht⟩) hT).setCell (p := ⟨b, i, none⟩) (fun _ => ⟨_, (hT b hbl).trans hb, rfl⟩) _
  · intro k hk
    rw [hsz] at hk
    rw [Own.put_other (by omega)]
    exact hfr k (Nat.le_trans hg.size hk)
  · exact (RowC.more hr (row_keep ho fun k hk => Below.heap_setCell _ _ _ _ (show k ≠ b from fun e => by
      have : r = k := by simpa [Value.ownBlock] using hk
      omega)))

theorem locV_more (L : Nat → Nat) (k B : Nat) : locV (putL L k B) (k + 1) = locV L k ++ [pV B] := by
  unfold locV
  rw [List.range_succ, List.map_append]
  congr 1
  · exact List.map_congr_left fun i hi => by rw [putL_other (by simp at hi; omega)]
  · simp [putL_same]
theorem flat_congr {L L' : Nat → Nat} {us : List UseS} (h : ∀ u, u ∈ us → ∀ i, u.own = some i → L' i = L i) : us.flatMap (useC L') = us.flatMap (useC L) := by
  induction us with
  | nil => rfl
  | cons u r ih =>
    simp only [List.flatMap_cons]
    rw [ih fun u' hu' => h u' (by simp [hu'])]
    congr 1
    simp only [useC, ownP_congr (h u (by simp))]
/-- A new local. -/
theorem FnAt.pushLoc {w w' : World} {T : Own} {lo n B r cap : Nat} {g : Gh} {f : FnS} {l : LocS} {x V : Value} (h : FnAt w T lo n g f) (hfr : ∀ k, w.heap.size ≤ k → T k = none) (hB : T B = some (.loc n f.locals.length)) (hc : LocC w B l x) (hs : l.name.length ≤ 1099511627776) (hl : f.locals.length < 1048576)
    (hV : V = .slice (some ⟨r, 0, none⟩) (f.locals.length + 1) cap) (ho : w'.ownsRow lo 101 1 V (f.locals.length + 1) (locV g.L f.locals.length ++ [pV B])) (hg : w.grownBy w' g.vl.ownBlock) (hat : g.vl.ownBlock = some r ∨ r = w.heap.size) (hlt : r < w'.heap.size) :
    FnAt (w'.setCell ⟨g.b, 0, none⟩ V) (T.put r (.locs n)) lo n { g with vl := V, L := putL g.L f.locals.length B } { f with locals := f.locals ++ [l] } ∧ Pushed w (w'.setCell ⟨g.b, 0, none⟩ V) T (T.put r (.locs n)) n g.b 0 (.locs n) V := by
  obtain ⟨P, R⟩ := pushed h.hd.tb h.hd.c0 h.rl rfl (by simp) hfr hV ho hg hat hlt
  refine ⟨?_, P⟩
  have hm := P.keep g.m _ h.map.lt h.tm (by simp) (by simp)
  have hq := P.keep g.q _ h.places.lt h.tq (by simp) (by simp)
  have hL : ∀ i, i < f.locals.length → putL g.L f.locals.length B i = g.L i := fun i hi => putL_other (by omega)
  have e1 : (f.locals ++ [l]).length = f.locals.length + 1 := by simp
  exact {
    hd := ⟨P.tb.trans h.hd.tb, P.cell, (P.cells 1 (by decide)).trans h.hd.c1, (P.cells 2 (by decide)).trans h.hd.c2, (P.cells 5 (by decide)).trans h.hd.c5, (P.cells 6 (by decide)).trans h.hd.c6, (P.cells 7 (by decide)).trans h.hd.c7, fun o => (P.warm o).trans (h.hd.warm o)⟩
    rl := by show RowC _ _ _ _ _ V (f.locals ++ [l]).length (locV (putL g.L f.locals.length B) (f.locals ++ [l]).length) _; rw [e1, locV_more]; exact R
    rf := by
      show RowC _ _ _ _ _ g.vf f.full.length (f.full.map fun i => pV (putL g.L f.locals.length B i)) _
      rw [List.map_congr_left fun i hi => by rw [hL i (h.ls.lt i hi)]]
      exact h.rf.keep fun k h1 h2 => P.keep k _ h1 h2 (by simp) (by simp)
    ls := (h.ls.push hB hc).keep fun k i h1 h2 => P.keep k _ h1 h2 (by simp) (by simp)
    map := by
      have e : (fun s => ({ f with locals := f.locals ++ [l] } : FnS).named s |>.map (putL g.L f.locals.length B)) = fun s => (f.named s).map g.L := by
        funext s
        have : ({ f with locals := f.locals ++ [l] } : FnS).named s = f.named s := namedIn_congr fun k hk => by rw [getD_more (h.ls.lt k hk)]
        rw [this]
        cases hn : f.named s with
        | none => rfl
        | some i => simp only [Option.map_some]; rw [hL i (h.ls.lt i (namedIn_mem hn))]
      show MapP _ g.m g.nm _
      rw [e]; exact h.map.keep hm.1
    tm := hm.2.trans h.tm
    ru := by
      show RowC _ _ _ _ _ g.vu f.uses.length (f.uses.flatMap (useC (putL g.L f.locals.length B))) _
      rw [flat_congr fun u hu i hi => hL i (h.own_lt u hu i hi)]
      exact h.ru.keep fun k h1 h2 => P.keep k _ h1 h2 (by simp) (by simp)
    rp := h.rp.keep fun k h1 h2 => P.keep k _ h1 h2 (by simp) (by simp)
    places := h.places.keep hq.1
    tq := hq.2.trans h.tq
    own_lt := fun u hu i hi => by have := h.own_lt u hu i hi; show i < (f.locals ++ [l]).length; rw [e1]; omega
    len_l := by show (f.locals ++ [l]).length ≤ _; rw [e1]; omega
    len_f := h.len_f
    len_u := h.len_u
    len_p := h.len_p
    len_m := by have := h.len_m; show g.nm + f.full.length ≤ 2 * (f.locals ++ [l]).length; rw [e1]; omega
    len_q := h.len_q
    short := fun l' hl' => by
      rcases List.mem_append.1 hl' with hl' | hl'
      · exact h.short l' hl'
      · simp at hl'; subst hl'; exact hs }
/-- Where one of a function's maps was written. -/
theorem map_turn {w w' : World} {T : Own} {n m : Nat} {t : Tag} (hm : T m = some t) (ht : t.no = some n) (hfr : ∀ k, w.heap.size ≤ k → T k = none) (hg : w.grownBy w' (some m)) : Turn (fun t => t.no = some n) T w T w' ∧ (∀ k t', k < w.heap.size → T k = some t' → t' ≠ t → w'.heap[k]? = w.heap[k]? ∧ T k = T k) ∧ ∀ k, w'.heap.size ≤ k → T k = none :=
  ⟨(Turn.refl _ _ _).grown hg (fun k hk => by injection hk with hk; subst hk; exact ⟨t, hm, ht⟩) fun _ _ => rfl, fun k t' hk h1 h2 => ⟨hg.block k hk fun e => by injection e with e; subst e; rw [hm] at h1; injection h1 with h1; exact h2 h1.symm, rfl⟩, fun k hk => hfr k (Nat.le_trans hg.size hk)⟩
/-- A local is one of those that are declared now. -/
theorem FnAt.pushFull {w w' w2 : World} {T : Own} {lo n i r cap : Nat} {g : Gh} {f : FnS} {V : Value} (h : FnAt w T lo n g f) (hfr : ∀ k, w.heap.size ≤ k → T k = none) (hi : i < f.locals.length) (hh : w.cell? ⟨g.L i, 3, none⟩ = some (ownP g.L (f.named (f.locals.getD i default).name))) (hl : f.full.length < 100) (hnm : g.nm + f.full.length + 2 ≤ 2 * f.locals.length)
    (hV : V = .slice (some ⟨r, 0, none⟩) (f.full.length + 1) cap) (ho : w'.ownsRow lo 101 1 V (f.full.length + 1) ((f.full.map fun i => pV (g.L i)) ++ [pV (g.L i)])) (hg : w.grownBy w' g.vf.ownBlock) (hat : g.vf.ownBlock = some r ∨ r = w.heap.size) (hlt : r < w'.heap.size)
    (hmap : MapP w2 g.m (g.nm + 1) (putN (fun s => (f.named s).map g.L) (f.locals.getD i default).name (some (g.L i)))) (hg2 : (w'.setCell ⟨g.b, 1, none⟩ V).grownBy w2 (some g.m)) :
    FnAt w2 (T.put r (.full n)) lo n { g with vf := V, nm := g.nm + 1 } { f with full := f.full ++ [i] } ∧ Turn (fun t => t.no = some n) T w (T.put r (.full n)) w2 ∧ (∀ k, w2.heap.size ≤ k → (T.put r (.full n)) k = none) ∧ w2.cell? ⟨g.b, 3, none⟩ = w.cell? ⟨g.b, 3, none⟩ := by
  obtain ⟨P, R⟩ := pushed h.hd.tb h.hd.c1 h.rf rfl (by simp) hfr hV ho hg hat hlt
  have hm := P.keep g.m _ h.map.lt h.tm (by simp) (by simp)
  have hq := P.keep g.q _ h.places.lt h.tq (by simp) (by simp)
  obtain ⟨Q1, Q2, Q3⟩ := map_turn (hm.2.trans h.tm) rfl P.fresh hg2
  have K : ∀ k t', k < w.heap.size → T k = some t' → t' ≠ .full n → t' ≠ .fn n → t' ≠ .named n → w2.heap[k]? = w.heap[k]? ∧ (T.put r (.full n)) k = T k := fun k t' hk h1 h2 h3 h4 => by
    have a := P.keep k t' hk h1 h2 h3
    exact ⟨(Q2 k t' (Nat.lt_of_lt_of_le hk P.turn.size) (a.2.trans h1) h4).1.trans a.1, a.2⟩
  have hbl : g.b < (w'.setCell ⟨g.b, 1, none⟩ V).heap.size := Nat.lt_of_lt_of_le h.b_lt P.turn.size
  have B := (Q2 g.b _ hbl (P.tb.trans h.hd.tb) (by simp)).1
  have C : ∀ j, w2.cell? ⟨g.b, j, none⟩ = (w'.setCell ⟨g.b, 1, none⟩ V).cell? ⟨g.b, j, none⟩ := fun j => World.cell?_of_block (a := ⟨g.b, j, none⟩) B
  refine ⟨?_, P.turn.trans Q1, Q3, (C 3).trans (P.cells 3 (by decide))⟩
  have hR : RowC w2 (T.put r (.full n)) lo 101 1 V (f.full.length + 1) ((f.full.map fun i => pV (g.L i)) ++ [pV (g.L i)]) (.full n) := R.keep fun k h1 h2 => Q2 k _ h1 h2 (by simp)
  exact { h with
    hd := ⟨P.tb.trans h.hd.tb, (C 0).trans ((P.cells 0 (by decide)).trans h.hd.c0), (C 1).trans P.cell, (C 2).trans ((P.cells 2 (by decide)).trans h.hd.c2), (C 5).trans ((P.cells 5 (by decide)).trans h.hd.c5), (C 6).trans ((P.cells 6 (by decide)).trans h.hd.c6), (C 7).trans ((P.cells 7 (by decide)).trans h.hd.c7), fun o => ((World.frozen?_of_block (a := ⟨g.b, o, none⟩) B).trans (P.warm o)).trans (h.hd.warm o)⟩
    rl := h.rl.keep fun k h1 h2 => K k _ h1 h2 (by simp) (by simp) (by simp)
    rf := by show RowC _ _ _ _ _ V (f.full ++ [i]).length ((f.full ++ [i]).map fun i => pV (g.L i)) _; rw [List.length_append, List.map_append]; exact hR
    ls := by
      have hk := h.ls.keep (w' := w2) (T' := T.put r (.full n)) fun k i h1 h2 => K k _ h1 h2 (by simp) (by simp) (by simp)
      refine ⟨hk.loc, fun j i' hj => ?_, fun i' hi' => ?_⟩
      · by_cases e : j < f.full.length
        · have hj : (f.full ++ [i])[j]? = some i' := hj
          rw [List.getElem?_append_left e] at hj
          show _ = some (ownP g.L (namedIn f.locals _ ((f.full ++ [i]).take j)))
          rw [List.take_append_of_le_length (by omega)]
          exact hk.hides j i' hj
        · have hj' : j < (f.full ++ [i]).length := (List.getElem?_eq_some_iff.1 hj).1
          have e2 : j = f.full.length := by simp at hj'; omega
          subst e2
          have : i = i' := by simpa using hj
          subst this
          show _ = some (ownP g.L (namedIn f.locals _ ((f.full ++ [i]).take f.full.length)))
          rw [List.take_left']
          · obtain ⟨h1, x, h2⟩ := h.ls.loc i _ (List.getElem?_eq_getElem hi)
            exact (World.cell?_of_block (a := ⟨g.L i, 3, none⟩) (K _ _ h2.lt h1 (by simp) (by simp) (by simp)).1).trans hh
          · rfl
      · rcases List.mem_append.1 hi' with hi' | hi'
        · exact h.ls.lt i' hi'
        · simp at hi'; subst hi'; exact hi
    map := by
      have e : (fun s => (({ f with full := f.full ++ [i] } : FnS).named s).map g.L) = putN (fun s => (f.named s).map g.L) (f.locals.getD i default).name (some (g.L i)) := by
        funext s
        have : ({ f with full := f.full ++ [i] } : FnS).named s = if (f.locals.getD i default).name = s then some i else f.named s := namedIn_one _ _ _ _
        rw [this]
        unfold putN
        by_cases e : s = (f.locals.getD i default).name
        · rw [if_pos e, if_pos e.symm]; rfl
        · rw [if_neg e, if_neg (Ne.symm e)]
      show MapP w2 g.m (g.nm + 1) _
      rw [e]; exact hmap
    tm := hm.2.trans h.tm
    ru := h.ru.keep fun k h1 h2 => K k _ h1 h2 (by simp) (by simp) (by simp)
    rp := h.rp.keep fun k h1 h2 => K k _ h1 h2 (by simp) (by simp) (by simp)
    places := h.places.keep (K g.q _ h.places.lt h.tq (by simp) (by simp) (by simp)).1
    tq := hq.2.trans h.tq
    len_f := by show (f.full ++ [i]).length ≤ 100; simp; omega
    len_m := by show g.nm + 1 + (f.full ++ [i]).length ≤ _; simp; omega }
/-- The last of those that are declared is so no more. -/
theorem FnAt.pop {w w1 : World} {T : Own} {lo n i j r cap : Nat} {g : Gh} {f : FnS} (h : FnAt w T lo n g f) (hfr : ∀ k, w.heap.size ≤ k → T k = none) (hj : f.full.length = j + 1) (hi : f.full[j]? = some i) (hv : g.vf = .slice (some ⟨r, 0, none⟩) (j + 1) cap)
    (hg : w.grownBy w1 (some g.m)) (hmap : MapP w1 g.m (g.nm + 1) (putN (fun s => (f.named s).map g.L) (f.locals.getD i default).name ((namedIn f.locals (f.locals.getD i default).name (f.full.take j)).map g.L))) :
    FnAt (w1.setCell ⟨g.b, 1, none⟩ (.slice (some ⟨r, 0, none⟩) j cap)) T lo n { g with vf := .slice (some ⟨r, 0, none⟩) j cap, nm := g.nm + 1 } (f.back j) ∧ Turn (fun t => t.no = some n) T w T (w1.setCell ⟨g.b, 1, none⟩ (.slice (some ⟨r, 0, none⟩) j cap)) ∧ (∀ k, (w1.setCell ⟨g.b, 1, none⟩ (.slice (some ⟨r, 0, none⟩) j cap)).heap.size ≤ k → T k = none) ∧ (w1.setCell ⟨g.b, 1, none⟩ (.slice (some ⟨r, 0, none⟩) j cap)).cell? ⟨g.b, 3, none⟩ = w.cell? ⟨g.b, 3, none⟩ := by
  obtain ⟨Q1, Q2, Q3⟩ := map_turn h.tm rfl hfr hg
  have hb1 := Q2 g.b _ h.b_lt h.hd.tb (by simp)
  have hd1 := h.hd.keep hb1
  have K : ∀ k t', k < w.heap.size → T k = some t' → t' ≠ .fn n → t' ≠ .named n → (w1.setCell ⟨g.b, 1, none⟩ (.slice (some ⟨r, 0, none⟩) j cap)).heap[k]? = w.heap[k]? ∧ T k = T k := fun k t' hk h1 h2 h3 =>
    ⟨(Below.heap_setCell _ _ _ _ (show k ≠ g.b from fun e => by subst e; rw [h.hd.tb] at h1; injection h1 with h1; exact h2 h1.symm)).trans (Q2 k t' hk h1 h3).1, rfl⟩
  have hsz : (w1.setCell ⟨g.b, 1, none⟩ (.slice (some ⟨r, 0, none⟩) j cap)).heap.size = w1.heap.size := by simp [World.setCell]
  have hgm : g.m ≠ g.b := fun e => by have := h.tm; rw [e, h.hd.tb] at this; injection this with this; cases this
  refine ⟨?_, Q1.setCell (p := ⟨g.b, 1, none⟩) (fun _ => ⟨_, h.hd.tb, rfl⟩) _, fun k hk => Q3 k (by omega), (cell_set_other (by decide) _).trans (World.cell?_of_block (a := ⟨g.b, 3, none⟩) hb1.1)⟩
  exact { h with
    hd := ⟨hd1.tb, (cell_set_other (by decide) _).trans hd1.c0, World.cell?_setCell_same _ _ _ hd1.c1, (cell_set_other (by decide) _).trans hd1.c2, (cell_set_other (by decide) _).trans hd1.c5, (cell_set_other (by decide) _).trans hd1.c6, (cell_set_other (by decide) _).trans hd1.c7, warm_set hd1.warm _ _⟩
    rl := h.rl.keep fun k h1 h2 => K k _ h1 h2 (by simp) (by simp)
    rf := by
      have hr := h.rf.keep (w' := w1.setCell ⟨g.b, 1, none⟩ (.slice (some ⟨r, 0, none⟩) j cap)) (T' := T) fun k h1 h2 => K k _ h1 h2 (by simp) (by simp)
      rw [hv, hj] at hr
      show RowC _ _ _ _ _ (.slice (some ⟨r, 0, none⟩) j cap) (f.full.take j).length ((f.full.take j).map fun i => pV (g.L i)) _
      rw [List.length_take, hj, Nat.min_eq_left (by omega), List.map_take]
      exact ⟨row_take hr.row (by omega), fun k hk => hr.tag k hk⟩
    ls := by
      have hk := h.ls.keep (w' := w1.setCell ⟨g.b, 1, none⟩ (.slice (some ⟨r, 0, none⟩) j cap)) (T' := T) fun k i h1 h2 => K k _ h1 h2 (by simp) (by simp)
      refine ⟨hk.loc, fun j' i' hj' => ?_, fun i' hi' => h.ls.lt i' (List.mem_of_mem_take hi')⟩
      have hj2 : (f.full.take j)[j']? = some i' := hj'
      have hlt : j' < (f.full.take j).length := (List.getElem?_eq_some_iff.1 hj2).1
      rw [List.length_take] at hlt
      rw [List.getElem?_take_of_lt (by omega)] at hj2
      show _ = some (ownP g.L (namedIn f.locals _ ((f.full.take j).take j')))
      rw [List.take_take, Nat.min_eq_left (by omega)]
      exact hk.hides j' i' hj2
    map := by
      have e : (fun s => ((f.back j).named s).map g.L) = putN (fun s => (f.named s).map g.L) (f.locals.getD i default).name ((namedIn f.locals (f.locals.getD i default).name (f.full.take j)).map g.L) := by
        funext s
        have e1 : f.full = f.full.take j ++ [i] := by
          have h1 : f.full.drop j = [i] := by
            rw [List.drop_eq_getElem_cons (by omega), List.drop_eq_nil_of_le (by omega)]
            rw [List.getElem?_eq_getElem (by omega)] at hi
            injection hi with hi
            rw [hi]
          rw [← h1, List.take_append_drop]
        have e2 : f.named s = if (f.locals.getD i default).name = s then some i else namedIn f.locals s (f.full.take j) := by
          unfold FnS.named
          rw [e1, namedIn_one, ← e1]
        show (namedIn f.locals s (f.full.take j)).map g.L = _
        unfold putN
        by_cases e : s = (f.locals.getD i default).name
        · rw [if_pos e, e]
        · rw [if_neg e]; show _ = (f.named s).map g.L; rw [e2, if_neg (Ne.symm e)]
      show MapP _ g.m (g.nm + 1) _
      rw [e]
      exact hmap.keep (Below.heap_setCell _ _ _ _ hgm)
    tm := h.tm
    ru := h.ru.keep fun k h1 h2 => K k _ h1 h2 (by simp) (by simp)
    rp := h.rp.keep fun k h1 h2 => K k _ h1 h2 (by simp) (by simp)
    places := h.places.keep (K g.q _ h.places.lt h.tq (by simp) (by simp)).1
    len_f := by show (f.full.take j).length ≤ 100; have := h.len_f; rw [List.length_take]; omega
    len_m := by have := h.len_m; show g.nm + 1 + (f.full.take j).length ≤ _; rw [List.length_take]; show _ ≤ 2 * f.locals.length; omega }
/-- A new use. -/
theorem FnAt.pushUse {w w' : World} {T : Own} {lo n r cap : Nat} {g : Gh} {f : FnS} {u : UseS} {V : Value} (h : FnAt w T lo n g f) (hfr : ∀ k, w.heap.size ≤ k → T k = none) (hu : ∀ i, u.own = some i → i < f.locals.length) (hl : f.uses.length < 1048576)
    (hV : V = .slice (some ⟨r, 0, none⟩) (f.uses.length + 1) cap) (ho : w'.ownsRow lo 103 4 V (f.uses.length + 1) (f.uses.flatMap (useC g.L) ++ useC g.L u)) (hg : w.grownBy w' g.vu.ownBlock) (hat : g.vu.ownBlock = some r ∨ r = w.heap.size) (hlt : r < w'.heap.size) :
    FnAt (w'.setCell ⟨g.b, 5, none⟩ V) (T.put r (.uses n)) lo n { g with vu := V } (f.addUse u) ∧ Pushed w (w'.setCell ⟨g.b, 5, none⟩ V) T (T.put r (.uses n)) n g.b 5 (.uses n) V := by
  obtain ⟨P, R⟩ := pushed h.hd.tb h.hd.c5 h.ru rfl (by simp) hfr hV ho hg hat hlt
  have hm := P.keep g.m _ h.map.lt h.tm (by simp) (by simp)
  have hq := P.keep g.q _ h.places.lt h.tq (by simp) (by simp)
  refine ⟨?_, P⟩
  exact { h with
    hd := ⟨P.tb.trans h.hd.tb, (P.cells 0 (by decide)).trans h.hd.c0, (P.cells 1 (by decide)).trans h.hd.c1, (P.cells 2 (by decide)).trans h.hd.c2, P.cell, (P.cells 6 (by decide)).trans h.hd.c6, (P.cells 7 (by decide)).trans h.hd.c7, fun o => (P.warm o).trans (h.hd.warm o)⟩
    rl := h.rl.keep fun k h1 h2 => P.keep k _ h1 h2 (by simp) (by simp)
    rf := h.rf.keep fun k h1 h2 => P.keep k _ h1 h2 (by simp) (by simp)
    ls := h.ls.keep fun k i h1 h2 => P.keep k _ h1 h2 (by simp) (by simp)
    map := h.map.keep hm.1
    tm := hm.2.trans h.tm
    ru := by show RowC _ _ _ _ _ V (f.uses ++ [u]).length ((f.uses ++ [u]).flatMap (useC g.L)) _; rw [List.length_append, List.flatMap_append]; simpa using R
    rp := h.rp.keep fun k h1 h2 => P.keep k _ h1 h2 (by simp) (by simp)
    places := h.places.keep hq.1
    tq := hq.2.trans h.tq
    own_lt := fun u' hu' i hi => by
      have hu' : u' ∈ f.uses ++ [u] := hu'
      rcases List.mem_append.1 hu' with hu' | hu'
      · exact h.own_lt u' hu' i hi
      · simp at hu'; subst hu'; exact hu i hi
    len_u := by show (f.uses ++ [u]).length ≤ _; simp; omega }
theorem placeIn_more {s : List UInt8} {u : UpS} : ∀ {l : List UpS}, placeIn u.name l = none → placeIn s (l ++ [u]) = if s = u.name then some l.length else placeIn s l
  | [], _ => by
    simp only [List.nil_append, placeIn]
    by_cases e : s = u.name
    · rw [if_pos e, if_pos e.symm]; rfl
    · rw [if_neg e, if_neg (Ne.symm e)]; rfl
  | x :: r, h => by
    simp only [placeIn] at h
    split at h
    · cases h
    · rename_i hx
      have hr : placeIn u.name r = none := by simpa using h
      simp only [List.cons_append, placeIn]
      rw [placeIn_more hr]
      by_cases e : s = u.name
      · rw [if_pos e, if_pos e, if_neg (by rw [e]; exact hx)]; rfl
      · rw [if_neg e, if_neg e]
/-- A new name from outside. -/
theorem FnAt.pushUp {w w' w2 : World} {T : Own} {lo n r cap : Nat} {g : Gh} {f : FnS} {u : UpS} {V : Value} (h : FnAt w T lo n g f) (hfr : ∀ k, w.heap.size ≤ k → T k = none) (hu : placeIn u.name f.ups = none) (hl : f.ups.length < 60)
    (hV : V = .slice (some ⟨r, 0, none⟩) (f.ups.length + 1) cap) (ho : w'.ownsRow lo 42 2 V (f.ups.length + 1) (f.ups.flatMap upC ++ upC u)) (hg : w.grownBy w' g.vp.ownBlock) (hat : g.vp.ownBlock = some r ∨ r = w.heap.size) (hlt : r < w'.heap.size)
    (hmap : MapI w2 g.q (g.nq + 1) (putN (fun s => placeIn s f.ups) u.name (some f.ups.length))) (hg2 : (w'.setCell ⟨g.b, 6, none⟩ V).grownBy w2 (some g.q)) :
    FnAt w2 (T.put r (.ups n)) lo n { g with vp := V, nq := g.nq + 1 } (f.addUp u) ∧ Turn (fun t => t.no = some n) T w (T.put r (.ups n)) w2 ∧ (∀ k, w2.heap.size ≤ k → (T.put r (.ups n)) k = none) ∧ w2.cell? ⟨g.b, 3, none⟩ = w.cell? ⟨g.b, 3, none⟩ := by
  obtain ⟨P, R⟩ := pushed h.hd.tb h.hd.c6 h.rp rfl (by simp) hfr hV ho hg hat hlt
  have hm := P.keep g.m _ h.map.lt h.tm (by simp) (by simp)
  have hq := P.keep g.q _ h.places.lt h.tq (by simp) (by simp)
  obtain ⟨Q1, Q2, Q3⟩ := map_turn (hq.2.trans h.tq) rfl P.fresh hg2
  have K : ∀ k t', k < w.heap.size → T k = some t' → t' ≠ .ups n → t' ≠ .fn n → t' ≠ .places n → w2.heap[k]? = w.heap[k]? ∧ (T.put r (.ups n)) k = T k := fun k t' hk h1 h2 h3 h4 => by
    have a := P.keep k t' hk h1 h2 h3
    exact ⟨(Q2 k t' (Nat.lt_of_lt_of_le hk P.turn.size) (a.2.trans h1) h4).1.trans a.1, a.2⟩
  have hbl : g.b < (w'.setCell ⟨g.b, 6, none⟩ V).heap.size := Nat.lt_of_lt_of_le h.b_lt P.turn.size
  have B := (Q2 g.b _ hbl (P.tb.trans h.hd.tb) (by simp)).1
  have C : ∀ j, w2.cell? ⟨g.b, j, none⟩ = (w'.setCell ⟨g.b, 6, none⟩ V).cell? ⟨g.b, j, none⟩ := fun j => World.cell?_of_block (a := ⟨g.b, j, none⟩) B
  refine ⟨?_, P.turn.trans Q1, Q3, (C 3).trans (P.cells 3 (by decide))⟩
  have hR : RowC w2 (T.put r (.ups n)) lo 42 2 V (f.ups.length + 1) (f.ups.flatMap upC ++ upC u) (.ups n) := R.keep fun k h1 h2 => Q2 k _ h1 h2 (by simp)
  exact { h with
    hd := ⟨P.tb.trans h.hd.tb, (C 0).trans ((P.cells 0 (by decide)).trans h.hd.c0), (C 1).trans ((P.cells 1 (by decide)).trans h.hd.c1), (C 2).trans ((P.cells 2 (by decide)).trans h.hd.c2), (C 5).trans ((P.cells 5 (by decide)).trans h.hd.c5), (C 6).trans P.cell, (C 7).trans ((P.cells 7 (by decide)).trans h.hd.c7), fun o => ((World.frozen?_of_block (a := ⟨g.b, o, none⟩) B).trans (P.warm o)).trans (h.hd.warm o)⟩
    rl := h.rl.keep fun k h1 h2 => K k _ h1 h2 (by simp) (by simp) (by simp)
    rf := h.rf.keep fun k h1 h2 => K k _ h1 h2 (by simp) (by simp) (by simp)
    ls := h.ls.keep fun k i h1 h2 => K k _ h1 h2 (by simp) (by simp) (by simp)
    map := h.map.keep (K g.m _ h.map.lt h.tm (by simp) (by simp) (by simp)).1
    tm := hm.2.trans h.tm
    ru := h.ru.keep fun k h1 h2 => K k _ h1 h2 (by simp) (by simp) (by simp)
    rp := by show RowC _ _ _ _ _ V (f.ups ++ [u]).length ((f.ups ++ [u]).flatMap upC) _; rw [List.length_append, List.flatMap_append]; simpa using hR
    places := by
      have e : (fun s => placeIn s (f.addUp u).ups) = putN (fun s => placeIn s f.ups) u.name (some f.ups.length) := by
        funext s
        exact placeIn_more hu
      show MapI w2 g.q (g.nq + 1) _
      rw [e]; exact hmap
    tq := hq.2.trans h.tq
    len_p := by show (f.ups ++ [u]).length ≤ 60; simp; omega
    len_q := by have := h.len_q; show g.nq + 1 ≤ (f.ups ++ [u]).length; simp; omega }
theorem boxL_len (ls : List LocS) (i : Nat) : (boxL ls i).length = ls.length := by simp [boxL]
theorem boxL_name (ls : List LocS) (i k : Nat) : ((boxL ls i).getD k default).name = (ls.getD k default).name := by
  unfold boxL
  rw [List.getD_eq_getElem?_getD, List.getD_eq_getElem?_getD, List.getElem?_modify]
  by_cases e : i = k
  · subst e
    cases h : ls[i]? with
    | none => simp
    | some l => simp
  · simp [e]
theorem namedIn_box (ls : List LocS) (i : Nat) (s : List UInt8) (l : List Nat) : namedIn (boxL ls i) s l = namedIn ls s l := namedIn_congr fun k _ => boxL_name ls i k
/-- A local is boxed. -/
theorem FnAt.boxed {w : World} {T : Own} {lo n i : Nat} {g : Gh} {f : FnS} (h : FnAt w T lo n g f) (hi : i < f.locals.length) :
    FnAt (w.setCell ⟨g.L i, 1, none⟩ (.bool true)) T lo n g (f.box i) ∧ Turn (fun t => t.no = some n) T w T (w.setCell ⟨g.L i, 1, none⟩ (.bool true)) ∧ (w.setCell ⟨g.L i, 1, none⟩ (.bool true)).cell? ⟨g.b, 3, none⟩ = w.cell? ⟨g.b, 3, none⟩ := by
  obtain ⟨t1, x, c1⟩ := h.ls.loc i _ (List.getElem?_eq_getElem hi)
  have K : ∀ k t', T k = some t' → t' ≠ .loc n i → (w.setCell ⟨g.L i, 1, none⟩ (.bool true)).heap[k]? = w.heap[k]? ∧ T k = T k := fun k t' h1 h2 => ⟨Below.heap_setCell _ _ _ _ (show k ≠ g.L i from fun e => by subst e; rw [t1] at h1; injection h1 with h1; exact h2 h1.symm), rfl⟩
  refine ⟨?_, (Turn.refl (fun t => t.no = some n) T w).setCell (p := ⟨g.L i, 1, none⟩) (fun _ => ⟨_, t1, rfl⟩) _, World.cell?_of_block (a := ⟨g.b, 3, none⟩) (K g.b _ h.hd.tb (by simp)).1⟩
  have e1 : (f.box i).locals.length = f.locals.length := boxL_len _ _
  exact {
    hd := h.hd.keep (K g.b _ h.hd.tb (by simp))
    rl := by rw [e1]; exact h.rl.keep fun k _ h2 => K k _ h2 (by simp)
    rf := h.rf.keep fun k _ h2 => K k _ h2 (by simp)
    ls := by
      refine ⟨fun k l hk => ?_, fun j k hj => ?_, fun k hk => by rw [e1]; exact h.ls.lt k hk⟩
      · have hk : (f.locals.modify i fun l => { l with boxed := true })[k]? = some l := hk
        rw [List.getElem?_modify] at hk
        by_cases e : i = k
        · subst e
          rw [List.getElem?_eq_getElem hi] at hk
          have hk : { f.locals[i] with boxed := true } = l := by simpa using hk
          subst hk
          exact ⟨t1, x, ⟨(cell_set_other (by decide) _).trans c1.c0, World.cell?_setCell_same _ _ _ c1.c1, (cell_set_other (by decide) _).trans c1.c2, (cell_set_other (by decide) _).trans c1.c3, warm_set c1.warm _ _⟩⟩
        · have hk : f.locals[k]? = some l := by simpa [e] using hk
          obtain ⟨t2, y, c2⟩ := h.ls.loc k l hk
          exact ⟨t2, y, c2.keep (K _ _ t2 (by simp; omega)).1⟩
      · have := h.ls.hides j k hj
        show (w.setCell ⟨g.L i, 1, none⟩ (.bool true)).cell? _ = some (ownP g.L (namedIn (boxL f.locals i) ((boxL f.locals i).getD k default).name (f.full.take j)))
        rw [boxL_name, namedIn_box, ← this]
        exact World.cell?_setCell_other _ _ _ _ (fun e => by injection e with _ e2; exact absurd e2 (by decide))
    map := by
      have e : (fun s => ((f.box i).named s).map g.L) = fun s => (f.named s).map g.L := by
        funext s
        exact congrArg (Option.map g.L) (namedIn_box _ _ _ _)
      rw [e]; exact h.map.keep (K g.m _ h.tm (by simp)).1
    tm := h.tm
    ru := h.ru.keep fun k _ h2 => K k _ h2 (by simp)
    rp := h.rp.keep fun k _ h2 => K k _ h2 (by simp)
    places := h.places.keep (K g.q _ h.tq (by simp)).1
    tq := h.tq
    own_lt := fun u hu k hk => by rw [e1]; exact h.own_lt u hu k hk
    len_l := by rw [e1]; exact h.len_l
    len_f := h.len_f
    len_u := h.len_u
    len_p := h.len_p
    len_m := by rw [e1]; exact h.len_m
    len_q := h.len_q
    short := fun l hl => by
      obtain ⟨k, hk⟩ := List.getElem?_of_mem hl
      have hk : (f.locals.modify i fun l => { l with boxed := true })[k]? = some l := hk
      rw [List.getElem?_modify] at hk
      obtain ⟨y, hy, rfl⟩ := Option.map_eq_some_iff.1 hk
      have := h.short y (List.mem_of_getElem? hy)
      split
      · exact this
      · exact this }
end Go.Proofs.Ytlbbbfmnghcdnaa
