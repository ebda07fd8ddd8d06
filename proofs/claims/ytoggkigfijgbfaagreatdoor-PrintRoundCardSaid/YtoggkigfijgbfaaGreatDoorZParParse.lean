/- parse.Parse: a source's statements, or what is wrong first. -/
import Derived.Test.YtoggkigfijgbfaaGreatDoorZAbb
import Derived.Test.YtoggkigfijgbfaaGreatDoorZC
import Derived.Test.YtoggkigfijgbfaaGreatDoorZD
namespace Go.Proofs.YtoggkigfijgbfaaGreatDoor.P5
set_option maxRecDepth 20000
open Go.RowKit Go.Maps

/-- What Parse hands back: statements in memory of the call's own; or a fault. -/
def GivesP (r : Res) (w : World) (e : Ending) (w' : World) : Prop :=
  Below w.heap.size w w' ∧ match r with
  | .out => False
  | .bad c l => ∃ b, e = .returned (.tuple #[.slice none 0 0, .iface 59 (pV b)]) ∧ w.heap.size ≤ b ∧ FaultAt w' b c l
  | .ok x _ => ∃ v, e = .returned (.tuple #[v, .nilIface]) ∧ VL w.heap.size x w' v
theorem toks_cells {g : Nat} {w : World} : ∀ (l : List Tok) (k : Nat), (∀ j u, (tokCells l)[j]? = some u → w.cell? ⟨g, k + j, none⟩ = some u) → TokCells w g k l
  | [], _, _ => trivial
  | t :: r, k, h => by
    have e : tokCells (t :: r) = [.int .i64 t.kind, .string ⟨t.text.toArray⟩, .int .i64 t.num, .int .i64 t.line] ++ tokCells r := by unfold tokCells; rw [List.flatMap_cons]
    rw [e] at h
    refine ⟨h 0 _ rfl, h 1 _ rfl, h 2 _ rfl, h 3 _ rfl, toks_cells r (k + 4) (fun j u hu => ?_)⟩
    have := h (j + 4) u (by rw [List.getElem?_append_right (by simp)]; simpa using hu)
    rwa [show k + (j + 4) = k + 4 + j by omega] at this
/-- The parser's struct, just laid. -/
theorem pat_new {B m : Nat} {v : Value} {l : List Tok} {w : World} (hr : TokRow B v l w) (hw : WFT l) (hs : ∀ t, t ∈ l → t.text.length ≤ 32768) (hm : StrAt w m) (T : TypeId) :
    ∃ A c, v = .slice A l.length c ∧ PAt (w.alloc (.cells #[v, iV 0, .map (some m)] T)) w.heap.size 0 l := by
  have hn : 0 < l.length := by cases l with | nil => exact hw.elim | cons => simp
  rcases hr.own.2 with ⟨_, h0⟩ | ⟨g, cap, cur, rfl, _, hg, hnc, hcm, _⟩
  · omega
  · have hlt : g < w.heap.size := by
      rcases Nat.lt_or_ge g w.heap.size with h | h
      · exact h
      · rw [Array.getElem?_eq_none h] at hg; cases hg
    have hc := hr.own.cells (g := g) rfl
    have e : ∀ j, (⟨g, 0, none⟩ : Addr).add j = ⟨g, j, none⟩ := fun j => by unfold Addr.add; split <;> simp_all
    have hcell : TokCells w g 0 l := toks_cells l 0 (fun j u hu => by have := hc j u hu; rw [e] at this; rwa [Nat.zero_add])
    have hml := hm.lt
    refine ⟨_, cap, rfl, g, 0, cap, m, hlt, hml, by simp [go_sem], by simp [go_sem], by simp [go_sem], fun o => by simp [go_sem], TokCells.keep (Below.heap_alloc _ _ _ hlt) _ _ hcell, hm.keep (Below.heap_alloc _ _ _ hml), hnc, by unfold maxLen at hcm; omega, by omega, hw, hs, cur, _, (Below.heap_alloc _ _ _ hlt).trans hg⟩
theorem load_stmts {b : Nat} {v : Value} {w : World} (h : w.cell? ⟨b, 0, none⟩ = some v) : (loadVar 24 ⟨b, 0, none⟩).run Tryz.prog w = .ok v w := by
  have ha := Tryz.isAgg24
  simp only [loadVar, Sem.run_bind, ha, Result.andThen]
  simp [go_sem, h]
theorem load_error {b : Nat} {v : Value} {w : World} (h : w.cell? ⟨b, 0, none⟩ = some v) : (loadVar 26 ⟨b, 0, none⟩).run Tryz.prog w = .ok v w := by
  have ha := Tryz.isAgg26
  simp only [loadVar, Sem.run_bind, ha, Result.andThen]
  simp [go_sem, h]
theorem results_parse {fn : Func} {tmps : Array Value} {w : World} {a b : Nat} {v e : Value} (h : fn.results = #[.cell 2 24, .cell 3 26]) (h2 : tmps.getD 2 undef = pV a) (h3 : tmps.getD 3 undef = pV b) (ha : w.cell? ⟨a, 0, none⟩ = some v) (hb : w.cell? ⟨b, 0, none⟩ = some e) :
    (results fn tmps).run Tryz.prog w = .ok (.tuple #[v, e]) w := by
  have k : (results fn tmps).run Tryz.prog w = ((asAddr (tmps.getD 2 undef)).run Tryz.prog w).andThen fun x w1 => ((loadVar 24 x).run Tryz.prog w1).andThen fun v w2 => ((asAddr (tmps.getD 3 undef)).run Tryz.prog w2).andThen fun y w3 => ((loadVar 26 y).run Tryz.prog w3).andThen fun e w4 => .ok (.tuple #[v, e]) w4 := by
    simp only [results, h]
    simp [Sem.run_bind, Result.andThen]
  rw [k, h2, h3]
  simp only [asAddr, Sem.run_pure, Result.andThen_ok, load_stmts ha, load_error hb]
theorem PIn.far {w : World} {p d : Nat} {ts : List Tok} {g o c m a : Nat} (h : PIn w p d ts g o c m) (hp : p ≠ a) (hg : g ≠ a) (hm : m ≠ a) (v : Value) : PIn (w.setCell ⟨a, 0, none⟩ v) p d ts g o c m := by
  have bp := Below.heap_setCell w ⟨a, 0, none⟩ v p hp
  have bg := Below.heap_setCell w ⟨a, 0, none⟩ v g hg
  have bm := Below.heap_setCell w ⟨a, 0, none⟩ v m hm
  have H : ∀ j, (w.setCell ⟨a, 0, none⟩ v).cell? ⟨p, j, none⟩ = w.cell? ⟨p, j, none⟩ := fun j => World.cell?_of_block (a := ⟨p, j, none⟩) bp
  have F : ∀ j, (w.setCell ⟨a, 0, none⟩ v).frozen? ⟨p, j, none⟩ = w.frozen? ⟨p, j, none⟩ := fun j => World.frozen?_of_block (a := ⟨p, j, none⟩) bp
  exact ⟨h.gp, h.mp, (H 0).trans h.c0, (H 1).trans h.c1, (H 2).trans h.c2, fun j => (F j).trans (h.warm j), TokCells.keep bg _ _ h.toks, h.map.keep bm, h.cap, h.small, h.deep, h.wf, h.short, by obtain ⟨cur, fr, e⟩ := h.row; exact ⟨cur, fr, bg.trans e⟩⟩
/-- A block of another kind is none of the parser's. -/
theorem PIn.apart {w : World} {p d : Nat} {ts : List Tok} {g o c m a : Nat} (h : PIn w p d ts g o c m) {cs : Array Value} {fr : Nat × Nat} (ha : w.heap[a]? = some (.cells cs 24 fr)) : g ≠ a ∧ m ≠ a := by
  refine ⟨?_, ?_⟩
  · rintro rfl
    obtain ⟨cur, fr', e⟩ := h.row
    rw [ha] at e
    injection e with e
    injection e with _ e _
    exact absurd e (by decide)
  · rintro rfl
    obtain ⟨n, D, ⟨es, clock, he, _⟩, _⟩ := h.map
    rw [ha] at he
    injection he with he
    cases he
theorem tok_set {B : Nat} {v : Value} {l : List Tok} {w : World} (h : TokRow B v l w) {a : Nat} (ha : a < B) (u : Value) : TokRow B v l (w.setCell ⟨a, 0, none⟩ u) := ⟨ownsRow_setCell_below h.own (a := ⟨a, 0, none⟩) ha u⟩
theorem tok_below {B : Nat} {v : Value} {l : List Tok} {w w' : World} (h : TokRow B v l w) (hb : Below w.heap.size w w') : TokRow B v l w' := ⟨own_below h.own hb⟩
set_option maxHeartbeats 8000000 in
theorem Parse_any {n : Nat} (S : Spec n) (s : ByteArray) (w : World) (hE : Env4 w) (hD : sourceF n s.data.toList ≠ .out) :
    Calls Tryz.prog 11 #[.string s] w (GivesP (sourceF n s.data.toList) w) := by
  have hmf : ∀ (fn : Fn) (first cap : Array Value) (w : World), (Instr.makeFunc fn first cap).run Tryz.prog w = .ok (.func fn first cap) w := fun _ _ _ _ => rfl
  have P1 : Below w.heap.size w ((w.alloc (.cells #[.slice none 0 0] 24)).alloc (.cells #[.nilIface] 26)) := ((Below.refl _ _).alloc (Nat.le_refl _) _).alloc (by simp) _
  have T := Lib.hid (Tokens_any s _ (hE.below P1))
  have AB : ∀ w2, Below ((w.alloc (.cells #[.slice none 0 0] 24)).alloc (.cells #[.nilIface] 26)).heap.size ((w.alloc (.cells #[.slice none 0 0] 24)).alloc (.cells #[.nilIface] 26)) w2 → w2.cell? ⟨w.heap.size, 0, none⟩ = some (.slice none 0 0) ∧ w2.frozen? ⟨w.heap.size, 0, none⟩ = false ∧ w2.cell? ⟨w.heap.size + 1, 0, none⟩ = some .nilIface ∧ w2.frozen? ⟨w.heap.size + 1, 0, none⟩ = false ∧ w.heap.size + 2 ≤ w2.heap.size ∧ Below w.heap.size w w2 ∧ w2.heap[w.heap.size]? = some (.cells #[.slice none 0 0] 24 (0, 0)) := by
    intro w2 h
    refine ⟨(h.cell (p := ⟨w.heap.size, 0, none⟩) (by simp; omega)).trans (by simp [go_sem]), (h.frozen (p := ⟨w.heap.size, 0, none⟩) (by simp; omega)).trans (by simp [go_sem]), (h.cell (p := ⟨w.heap.size + 1, 0, none⟩) (by simp)).trans (by simp [go_sem]), (h.frozen (p := ⟨w.heap.size + 1, 0, none⟩) (by simp)).trans (by simp [go_sem]), by simpa using h.size, P1.trans (h.mono (by simp; omega)), (h.block _ (by simp; omega)).trans ((Below.heap_alloc _ _ _ (by simp)).trans (heap_alloc_new w _))⟩
  replace AB := Lib.hid AB
  unfold sourceF at hD ⊢
  cases hl : lexL s.data.toList with
  | mk toks err line =>
  rw [hl] at T hD
  by_cases he : err = 0
  · simp only [if_pos he] at hD ⊢
    subst he
    have hlx := lex_wf hl
    replace hlx := Lib.hid hlx
    have D1 : parseF n .stmts 0 toks ≠ .out := bind_done hD
    have C1 := Lib.hid (fun (w : World) (p : Nat) (h : PAt w p 0 toks) => S.stmts h D1)
    generalize parseF n .stmts 0 toks = r1 at hD D1 C1 ⊢
    unfold Gives at T
    have he : (0 : Int) = 0 := rfl
    cases r1 with
    | out => exact absurd rfl D1
    | bad c l =>
      go_enter_defers Tryz.func11, Tryz.ntmps11
      go_wp2_with (first
        | (go_at_call 23; (with_reducible refine T.out.mono ?_); rintro e w2 (⟨_, v, rfl, hr, hw2⟩ | ⟨h0, _⟩); rotate_left; (· exact absurd he h0); obtain ⟨ca, fa, cb, fb, hz2, hB2, hA2⟩ := AB.out _ hw2; clear hw2; have hr3 := tok_set hr (a := w.heap.size + 1) (by simp) .nilIface; have hz3 : (w2.setCell ⟨w.heap.size + 1, 0, none⟩ .nilIface).heap.size = w2.heap.size := (by simp))
        | (go_at_call 25; (with_reducible refine (strengths_any _).mono ?_); rintro e w4 ⟨rfl, hm, hb4⟩; rw [hz3] at hm; obtain ⟨A, c, rfl, hp⟩ := pat_new (tok_below hr3 hb4) hlx.out.1 hlx.out.2.2 hm 63; have hz4 : w2.heap.size ≤ w4.heap.size := (by have := hb4.size; rwa [hz3] at this))
        | (go_at_call 26; (with_reducible refine (C1.out _ _ hp).mono ?_); rintro e w6 hB; obtain ⟨b', rfl, hb1, hb2, hb3, hb4'⟩ := hB))
      have qa := (hb4.cell (p := ⟨w.heap.size, 0, none⟩) (by show w.heap.size < _; omega)).trans ((cell_set_block (by omega) _).trans ca)
      have qb := (hb4.cell (p := ⟨w.heap.size + 1, 0, none⟩) (by show w.heap.size + 1 < _; omega)).trans (World.cell?_setCell_same _ _ _ cb)
      have ra := (hb4.frozen (p := ⟨w.heap.size, 0, none⟩) (by show w.heap.size < _; omega)).trans ((World.frozen?_setCell _ _ _ _).trans fa)
      have rb := (hb4.frozen (p := ⟨w.heap.size + 1, 0, none⟩) (by show w.heap.size + 1 < _; omega)).trans ((World.frozen?_setCell _ _ _ _).trans fb)
      have B4 : Below w.heap.size w w4 := (hB2.setCell (p := ⟨w.heap.size + 1, 0, none⟩) (by simp) .nilIface).trans (hb4.mono (by omega))
      have P6 : Past [w4.heap.size] w4 w6 := ((Past.refl _ w4).alloc _).trans hb3
      have qa6 := P6.cell_some qa (by simp; omega)
      have qb6 := P6.cell_some qb (by simp; omega)
      have ra6 := (P6.frozen (p := ⟨w.heap.size, 0, none⟩) (by show w.heap.size < w4.heap.size; omega) (by simp; omega)).trans ra
      have rb6 := (P6.frozen (p := ⟨w.heap.size + 1, 0, none⟩) (by show w.heap.size + 1 < w4.heap.size; omega) (by simp; omega)).trans rb
      have B6 : Below w.heap.size w w6 := B4.trans (P6.toBelow (by omega) (by simp; omega))
      refine leaves_cons (f := 24) (args := #[pV w.heap.size, pV (w.heap.size + 1)]) (by simp) (by simp [go_sem]) ?_
      refine (catch_panic w.heap.size (w.heap.size + 1) b' _ _ (by omega) qa6 ra6 _ qb6 rb6).mono ?_
      rintro e u' w7 ⟨rfl, rfl, h1, h2, h3⟩
      refine ⟨_, results_parse rfl rfl rfl h1 h2, ?_⟩
      exact ⟨B6.trans (h3.toBelow (by have := B6.size; omega) (by intro i hi; simp at hi; omega)), b', rfl, (by simp at hb1; omega), hb2.keep (h3.block b' hb2.lt (by simp at hb1 ⊢; omega))⟩
    | ok x ts =>
      rw [ok_bind] at hD ⊢
      by_cases hk : (hdT ts).kind = 5
      · rw [if_pos hk]
        have hq : (((hdT ts).kind : Int) != 5) = false := by rw [hk]; rfl
        clear hD hk
        go_enter_defers Tryz.func11, Tryz.ntmps11
        go_wp2_with (first
          | (go_at_call 23; (with_reducible refine T.out.mono ?_); rintro e w2 (⟨_, v, rfl, hr, hw2⟩ | ⟨h0, _⟩); rotate_left; (· exact absurd he h0); obtain ⟨ca, fa, cb, fb, hz2, hB2, hA2⟩ := AB.out _ hw2; clear hw2; have hr3 := tok_set hr (a := w.heap.size + 1) (by simp) .nilIface; have hz3 : (w2.setCell ⟨w.heap.size + 1, 0, none⟩ .nilIface).heap.size = w2.heap.size := (by simp))
          | (go_at_call 25; (with_reducible refine (strengths_any _).mono ?_); rintro e w4 ⟨rfl, hm, hb4⟩; rw [hz3] at hm; obtain ⟨A, c, rfl, hp⟩ := pat_new (tok_below hr3 hb4) hlx.out.1 hlx.out.2.2 hm 63; have hz4 : w2.heap.size ≤ w4.heap.size := (by have := hb4.size; rwa [hz3] at this))
          | (go_at_call 26; (with_reducible refine (C1.out _ _ hp).mono ?_); rintro e w6 ⟨v6, rfl, hv6, hp6, hw6⟩; obtain ⟨A6, c6, rfl⟩ := hv6.sl; have qa := (hb4.cell (p := ⟨w.heap.size, 0, none⟩) (by show w.heap.size < _; omega)).trans ((cell_set_block (by omega) _).trans ca); have qb := (hb4.cell (p := ⟨w.heap.size + 1, 0, none⟩) (by show w.heap.size + 1 < _; omega)).trans (World.cell?_setCell_same _ _ _ cb); have ra := (hb4.frozen (p := ⟨w.heap.size, 0, none⟩) (by show w.heap.size < _; omega)).trans ((World.frozen?_setCell _ _ _ _).trans fa); have rb := (hb4.frozen (p := ⟨w.heap.size + 1, 0, none⟩) (by show w.heap.size + 1 < _; omega)).trans ((World.frozen?_setCell _ _ _ _).trans fb); have B4 : Below w.heap.size w w4 := (hB2.setCell (p := ⟨w.heap.size + 1, 0, none⟩) (by simp) .nilIface).trans (hb4.mono (by omega)); have P6 : Past [w4.heap.size] w4 w6 := ((Past.refl _ w4).alloc _).trans hw6; have qa6 := P6.cell_some qa (by simp; omega); have qb6 := P6.cell_some qb (by simp; omega); have ra6 := (P6.frozen (p := ⟨w.heap.size, 0, none⟩) (by show w.heap.size < w4.heap.size; omega) (by simp; omega)).trans ra; have rb6 := (P6.frozen (p := ⟨w.heap.size + 1, 0, none⟩) (by show w.heap.size + 1 < w4.heap.size; omega) (by simp; omega)).trans rb; have B6 : Below w.heap.size w w6 := B4.trans (P6.toBelow (by omega) (by simp; omega)); obtain ⟨g, o, cc, m, hP⟩ := hp6; have pc0 := hP.c0; obtain ⟨hl1, hh⟩ := hP.hd; have ph0 := hh.c0; have hne : ¬ w.heap.size = w4.heap.size := (by omega); have hA6 : w6.heap[w.heap.size]? = some (.cells #[.slice none 0 0] 24 (0, 0)) := (P6.block w.heap.size (by omega) (by simp; omega)).trans ((hb4.block w.heap.size (by rw [hz3]; omega)).trans ((Below.heap_setCell _ _ _ _ (show w.heap.size ≠ w.heap.size + 1 by omega)).trans hA2)); have hap := PIn.apart hP hA6; obtain ⟨hga, hma⟩ := hap; have hb6 : (0 : Int) < (ts.length : Int) := (by omega)))
        refine leaves_cons (f := 24) (args := #[pV w.heap.size, pV (w.heap.size + 1)]) (by simp) (by simp [go_sem]) ?_
        refine (catch_idle w.heap.size (w.heap.size + 1) _).mono ?_
        rintro e u' w7 ⟨rfl, rfl, rfl⟩
        have PW : Past [w.heap.size, w.heap.size + 1] w6 (((w6.setCell ⟨w.heap.size, 0, none⟩ (.slice A6 (lenT x) c6)).setCell ⟨w.heap.size, 0, none⟩ (.slice A6 (lenT x) c6)).setCell ⟨w.heap.size + 1, 0, none⟩ .nilIface) := (((Past.refl _ w6).setCell (.inl (by simp)) _).setCell (.inl (by simp)) _).setCell (.inl (by simp)) _
        have hz6 := B6.size
        refine ⟨_, results_parse rfl rfl rfl (a := w.heap.size) (b := w.heap.size + 1) (v := .slice A6 (lenT x) c6) (e := .nilIface) ((cell_set_block (by omega) _).trans (World.cell?_setCell_same _ _ _ (World.cell?_setCell_same _ _ _ qa6))) (World.cell?_setCell_same _ _ _ ((cell_set_block (by omega) _).trans ((cell_set_block (by omega) _).trans qb6))), ?_⟩
        exact ⟨B6.trans (PW.toBelow hz6 (by intro i hi; simp at hi; omega)), _, rfl, hv6.past PW ab17 (by simp; omega)⟩
      · rw [if_neg hk]
        have hq : (((hdT ts).kind : Int) != 5) = true := by simp; omega
        clear hD hk
        go_enter_defers Tryz.func11, Tryz.ntmps11
        go_wp2_with (first
          | (go_at_call 23; (with_reducible refine T.out.mono ?_); rintro e w2 (⟨_, v, rfl, hr, hw2⟩ | ⟨h0, _⟩); rotate_left; (· exact absurd he h0); obtain ⟨ca, fa, cb, fb, hz2, hB2, hA2⟩ := AB.out _ hw2; clear hw2; have hr3 := tok_set hr (a := w.heap.size + 1) (by simp) .nilIface; have hz3 : (w2.setCell ⟨w.heap.size + 1, 0, none⟩ .nilIface).heap.size = w2.heap.size := (by simp))
          | (go_at_call 25; (with_reducible refine (strengths_any _).mono ?_); rintro e w4 ⟨rfl, hm, hb4⟩; rw [hz3] at hm; obtain ⟨A, c, rfl, hp⟩ := pat_new (tok_below hr3 hb4) hlx.out.1 hlx.out.2.2 hm 63; have hz4 : w2.heap.size ≤ w4.heap.size := (by have := hb4.size; rwa [hz3] at this))
          | (go_at_call 26; (with_reducible refine (C1.out _ _ hp).mono ?_); rintro e w6 ⟨v6, rfl, hv6, hp6, hw6⟩; obtain ⟨A6, c6, rfl⟩ := hv6.sl; have qa := (hb4.cell (p := ⟨w.heap.size, 0, none⟩) (by show w.heap.size < _; omega)).trans ((cell_set_block (by omega) _).trans ca); have qb := (hb4.cell (p := ⟨w.heap.size + 1, 0, none⟩) (by show w.heap.size + 1 < _; omega)).trans (World.cell?_setCell_same _ _ _ cb); have ra := (hb4.frozen (p := ⟨w.heap.size, 0, none⟩) (by show w.heap.size < _; omega)).trans ((World.frozen?_setCell _ _ _ _).trans fa); have rb := (hb4.frozen (p := ⟨w.heap.size + 1, 0, none⟩) (by show w.heap.size + 1 < _; omega)).trans ((World.frozen?_setCell _ _ _ _).trans fb); have B4 : Below w.heap.size w w4 := (hB2.setCell (p := ⟨w.heap.size + 1, 0, none⟩) (by simp) .nilIface).trans (hb4.mono (by omega)); have P6 : Past [w4.heap.size] w4 w6 := ((Past.refl _ w4).alloc _).trans hw6; have qa6 := P6.cell_some qa (by simp; omega); have qb6 := P6.cell_some qb (by simp; omega); have ra6 := (P6.frozen (p := ⟨w.heap.size, 0, none⟩) (by show w.heap.size < w4.heap.size; omega) (by simp; omega)).trans ra; have rb6 := (P6.frozen (p := ⟨w.heap.size + 1, 0, none⟩) (by show w.heap.size + 1 < w4.heap.size; omega) (by simp; omega)).trans rb; have B6 : Below w.heap.size w w6 := B4.trans (P6.toBelow (by omega) (by simp; omega)); obtain ⟨g, o, cc, m, hP⟩ := hp6; have pc0 := hP.c0; obtain ⟨hl1, hh⟩ := hP.hd; have ph0 := hh.c0; have hne : ¬ w.heap.size = w4.heap.size := (by omega); have hA6 : w6.heap[w.heap.size]? = some (.cells #[.slice none 0 0] 24 (0, 0)) := (P6.block w.heap.size (by omega) (by simp; omega)).trans ((hb4.block w.heap.size (by rw [hz3]; omega)).trans ((Below.heap_setCell _ _ _ _ (show w.heap.size ≠ w.heap.size + 1 by omega)).trans hA2)); have hap := PIn.apart hP hA6; obtain ⟨hga, hma⟩ := hap; have hb6 : (0 : Int) < (ts.length : Int) := (by omega); have hPA : PAt (w6.setCell ⟨w.heap.size, 0, none⟩ (.slice A6 (lenT x) c6)) w4.heap.size 0 ts := (by exact ⟨g, o, cc, m, PIn.far hP (by omega) hga hma _⟩))
          | (go_at_call 27; (with_reducible refine (fault_any hPA _).mono ?_); rintro e w8 ⟨rfl, rfl⟩))
        refine leaves_cons (f := 24) (args := #[pV w.heap.size, pV (w.heap.size + 1)]) (by simp) (by simp [go_sem]) ?_
        have hz6 := B6.size
        have hzz := P6.size
        have sa := (World.cell?_alloc_lt (w6.setCell ⟨w.heap.size, 0, none⟩ (.slice A6 (lenT x) c6)) (.cells #[iV 4, iV (linT ts)] 31) ⟨w.heap.size, 0, none⟩ (by simp; omega)).trans (World.cell?_setCell_same w6 ⟨w.heap.size, 0, none⟩ (.slice A6 (lenT x) c6) qa6)
        have sb := (World.cell?_alloc_lt (w6.setCell ⟨w.heap.size, 0, none⟩ (.slice A6 (lenT x) c6)) (.cells #[iV 4, iV (linT ts)] 31) ⟨w.heap.size + 1, 0, none⟩ (by simp; omega)).trans ((cell_set_block (by omega) _).trans qb6)
        have ta := (World.frozen?_alloc_old (w6.setCell ⟨w.heap.size, 0, none⟩ (.slice A6 (lenT x) c6)) (.cells #[iV 4, iV (linT ts)] 31) ⟨w.heap.size, 0, none⟩ (by simp; omega)).trans ((World.frozen?_setCell _ _ _ _).trans ra6)
        have tb := (World.frozen?_alloc_old (w6.setCell ⟨w.heap.size, 0, none⟩ (.slice A6 (lenT x) c6)) (.cells #[iV 4, iV (linT ts)] 31) ⟨w.heap.size + 1, 0, none⟩ (by simp; omega)).trans ((World.frozen?_setCell _ _ _ _).trans rb6)
        have FA : FaultAt ((w6.setCell ⟨w.heap.size, 0, none⟩ (.slice A6 (lenT x) c6)).alloc (.cells #[iV 4, iV (linT ts)] 31)) w6.heap.size 4 (linT ts) := ⟨by simp [go_sem], by simp [go_sem]⟩
        have B8 : Below w.heap.size w ((w6.setCell ⟨w.heap.size, 0, none⟩ (.slice A6 (lenT x) c6)).alloc (.cells #[iV 4, iV (linT ts)] 31)) := (B6.setCell (by simp) _).alloc (by simpa using hz6) _
        refine (catch_panic w.heap.size (w.heap.size + 1) w6.heap.size _ _ (by omega) sa ta _ sb tb).mono ?_
        rintro e u' w7 ⟨rfl, rfl, h1, h2, h3⟩
        refine ⟨_, results_parse rfl rfl rfl h1 h2, ?_⟩
        exact ⟨B8.trans (h3.toBelow B8.size (by intro i hi; simp at hi; omega)), _, rfl, hz6, FA.keep (h3.block _ FA.lt (by simp; omega))⟩
  · simp only [if_neg he] at hD ⊢
    unfold Gives at T
    go_enter_defers Tryz.func11, Tryz.ntmps11
    go_wp2_with (first
      | (go_at_call 23; (with_reducible refine T.out.mono ?_); rintro e w2 (⟨h0, _⟩ | ⟨_, b, rfl, hb1, hb2, hb3, hb4, hw2⟩); (· exact absurd h0 he); obtain ⟨ca, fa, cb, fb, hz2, hB2, hA2⟩ := AB.out _ hw2; clear hw2; simp at hb1))
    go_region
    all_goals
      go_wp2_with fail
      refine ⟨_, results_parse rfl rfl rfl (a := w.heap.size) (b := w.heap.size + 1) (v := .slice none 0 0) (e := .iface 59 (pV b)) (by simp [go_sem, ca]) (by simp [go_sem, cb]), ?_⟩
      refine ⟨(((hB2.setCell (by simp) _).setCell (by simp) _).setCell (by simp) _).drew, b, rfl, by omega, ?_, ?_⟩
      · show (((w2.setCell ⟨w.heap.size + 1, 0, none⟩ _).setCell ⟨w.heap.size, 0, none⟩ _).setCell ⟨w.heap.size + 1, 0, none⟩ _).cell? ⟨b, 0, none⟩ = _
        rw [cell_set_block (by omega), cell_set_block (by omega), cell_set_block (by omega)]; exact hb3
      · show (((w2.setCell ⟨w.heap.size + 1, 0, none⟩ _).setCell ⟨w.heap.size, 0, none⟩ _).setCell ⟨w.heap.size + 1, 0, none⟩ _).cell? ⟨b, 1, none⟩ = _
        rw [cell_set_block (by omega), cell_set_block (by omega), cell_set_block (by omega)]; exact hb4
end Go.Proofs.YtoggkigfijgbfaaGreatDoor.P5
