/- Resolve. -/
import Derived.Test.YtlbbbfmnghcdnaaScScope
import Derived.Recover
import Derived.Deep.RegionHeld3
namespace Go.Proofs.Ytlbbbfmnghcdnaa
set_option maxRecDepth 20000
open Go.RowKit Go.Maps

/-- A slice that reads as so many cells. -/
def Reads (w : World) (v : Value) (n : Nat) (xs : List Value) : Prop := ∃ A c, v = .slice A n c ∧ ∀ j u, xs[j]? = some u → ∃ b, A = some ⟨b, 0, none⟩ ∧ w.cell? ⟨b, j, none⟩ = some u
theorem Reads.of {w : World} {lo : Nat} {e : TypeId} {size n : Nat} {v : Value} {xs : List Value} (h : w.ownsRow lo e size v n xs) : Reads w v n xs := by
  rcases row_form h with ⟨rfl, rfl⟩ | ⟨g, cap, rfl, _⟩
  · refine ⟨_, _, rfl, fun j u hu => ?_⟩
    have : xs = [] := List.eq_nil_of_length_eq_zero (by have := h.1; omega)
    subst this; simp at hu
  · exact ⟨_, _, rfl, fun j u hu => ⟨g, rfl, row_cell h hu⟩⟩
theorem Reads.below {w w' : World} {v : Value} {n : Nat} {xs : List Value} (h : Reads w v n xs) (hb : Below w.heap.size w w') : Reads w' v n xs := by
  obtain ⟨A, c, rfl, hr⟩ := h
  refine ⟨A, c, rfl, fun j u hu => ?_⟩
  obtain ⟨b, rfl, hc⟩ := hr j u hu
  exact ⟨b, rfl, below_cell hb hc⟩
/-- A scope as it reads. -/
structure ScAt (w : World) (t : Value × Value × Value) (f : FnS) : Prop where
  u : Reads w t.1 f.uses.length (f.uses.flatMap (useR f.locals))
  d : Reads w t.2.1 f.locals.length (f.locals.flatMap declR)
  p : Reads w t.2.2 f.ups.length (f.ups.flatMap upC)
theorem ScAt.below {w w' : World} {t : Value × Value × Value} {f : FnS} (h : ScAt w t f) (hb : Below w.heap.size w w') : ScAt w' t f := ⟨h.u.below hb, h.d.below hb, h.p.below hb⟩
def tripV (t : Value × Value × Value) : List Value := [t.1, t.2.1, t.2.2]
/-- All scopes. -/
def ScsAt (w : World) (v : Value) (fs : List FnS) : Prop := ∃ ts : List (Value × Value × Value), ts.length = fs.length ∧ Reads w v fs.length (ts.flatMap tripV) ∧ ∀ (j : Nat) (t : Value × Value × Value) (f : FnS), ts[j]? = some t → fs[j]? = some f → ScAt w t f
theorem ScsAt.below {w w' : World} {v : Value} {fs : List FnS} (h : ScsAt w v fs) (hb : Below w.heap.size w w') : ScsAt w' v fs := by
  obtain ⟨ts, h1, h2, h3⟩ := h
  exact ⟨ts, h1, h2.below hb, fun j t f ht hf => (h3 j t f ht hf).below hb⟩
/-- What Resolve hands back. -/
def GivesS (r : ResS) (w : World) (e : Ending) (w' : World) : Prop :=
  Below w.heap.size w w' ∧ match r with
  | .out => False
  | .bad c l => ∃ b, e = .returned (.tuple #[.slice none 0 0, .iface 67 (pV b)]) ∧ w.heap.size ≤ b ∧ FaultAt w' b c l
  | .ok st => ∃ v, e = .returned (.tuple #[v, .nilIface]) ∧ ScsAt w' v st.fns
theorem load_scopes {b : Nat} {v : Value} {w : World} (h : w.cell? ⟨b, 0, none⟩ = some v) : (loadVar 28 ⟨b, 0, none⟩).run Try.prog w = .ok v w := by
  have ha := Try.isAgg28
  simp only [loadVar, Sem.run_bind, ha, Result.andThen]
  simp [go_sem, h]
theorem load_error {b : Nat} {v : Value} {w : World} (h : w.cell? ⟨b, 0, none⟩ = some v) : (loadVar 30 ⟨b, 0, none⟩).run Try.prog w = .ok v w := by
  have ha := Try.isAgg30
  simp only [loadVar, Sem.run_bind, ha, Result.andThen]
  simp [go_sem, h]
theorem results_two {fn : Func} {tmps : Array Value} {w : World} {a b : Nat} {v e : Value} (h : fn.results = #[.cell 2 28, .cell 3 30]) (h2 : tmps.getD 2 undef = pV a) (h3 : tmps.getD 3 undef = pV b) (ha : w.cell? ⟨a, 0, none⟩ = some v) (hb : w.cell? ⟨b, 0, none⟩ = some e) :
    (results fn tmps).run Try.prog w = .ok (.tuple #[v, e]) w := by
  have k : (results fn tmps).run Try.prog w = ((asAddr (tmps.getD 2 undef)).run Try.prog w).andThen fun x w1 => ((loadVar 28 x).run Try.prog w1).andThen fun v w2 => ((asAddr (tmps.getD 3 undef)).run Try.prog w2).andThen fun y w3 => ((loadVar 30 y).run Try.prog w3).andThen fun e w4 => .ok (.tuple #[v, e]) w4 := by
    simp only [results, h]
    simp [Sem.run_bind, Result.andThen]
  rw [k, h2, h3]
  simp only [asAddr, Sem.run_pure, Result.andThen_ok, load_scopes ha, load_error hb]
theorem assert_fault (v : Value) (w : World) : (Instr.typeAssert (.iface 67 v) 20 67 false).run Try.prog w = .ok v w := by kernel_rfl
theorem catch_idle (a b : Nat) (w : World) :
    CallsD Try.prog 31 #[pV a, pV b] .returning w fun e u' w' => e = .returned (.tuple #[]) ∧ u' = .returning ∧ w' = w := by
  refine callsD_of_wpS Try.func31 rfl fun c₀ cs hu => ?_
  apply wpS_seq
  apply wpS_region
  simp [wpOpsS, go_sem, recoverD, hu, Try.ntmps31, Exit.thenS]
  apply wpS_seq
  apply wpS_region
  simp [wpOpsS, go_sem, Exit.thenS]
  refine wpS_cond (t := false) (by simp [Act.eval, Array.replicate]) ?_
  simp only [Bool.false_eq_true, if_false]
  refine wpS_of_wp (wp_skip ?_)
  cases c₀
  simp_all [bodyPostS, results, Try.results31]
theorem catch_panic (a b f : Nat) (w : World) (x : Value) (hab : a ≠ b) (ha : w.cell? ⟨a, 0, none⟩ = some x) (fa : w.frozen? ⟨a, 0, none⟩ = false) (y : Value) (hb : w.cell? ⟨b, 0, none⟩ = some y) (fb : w.frozen? ⟨b, 0, none⟩ = false) :
    CallsD Try.prog 31 #[pV a, pV b] (.panicking [{ v := .iface 67 (pV f), recovered := false }]) w fun e u' w' =>
      e = .returned (.tuple #[]) ∧ u' = .panicking [{ v := .iface 67 (pV f), recovered := true }] ∧ w'.cell? ⟨a, 0, none⟩ = some (.slice none 0 0) ∧ w'.cell? ⟨b, 0, none⟩ = some (.iface 67 (pV f)) ∧ Past [a, b] w w' := by
  refine callsD_of_wpS Try.func31 rfl fun c₀ cs hu => ?_
  apply wpS_seq
  apply wpS_region
  simp [wpOpsS, go_sem, recoverD, hu, Try.ntmps31, Exit.thenS]
  apply wpS_seq
  apply wpS_region
  simp [wpOpsS, go_sem, Exit.thenS]
  refine wpS_cond (t := true) (by simp [Act.eval, Array.replicate]) ?_
  simp only [if_true]
  refine wpS_of_wp ?_
  change Code.wp _ _ _ { tmps := #[pV a, pV b, .iface 67 (pV f), .iface 67 (pV f), .iface 67 (pV f), .bool true, undef, undef, undef], defers := [] } _
  have hba : b ≠ a := Ne.symm hab
  have TA := assert_fault
  go_region
  all_goals
    refine ⟨rfl, _, rfl, .tuple #[], results_none rfl _ _ _, rfl, rfl, ?_, ?_, ?_⟩
    · first | exact (cell_set_block hba _).trans (World.cell?_setCell_same _ _ _ (by simpa using ha)) | exact World.cell?_setCell_same _ _ _ ((cell_set_block hba _).trans (by simpa using ha))
    · first | exact World.cell?_setCell_same _ _ _ ((cell_set_block hab _).trans (by simpa using hb)) | exact (cell_set_block hab _).trans (World.cell?_setCell_same _ _ _ (by simpa using hb))
    · exact ((Past.refl [a, b] w).drew.setCell (.inl (by simp)) _).setCell (.inl (by simp)) _
/-- The walk's struct, just laid. -/
def walkT (p : Nat) : Own := fun k => if k = p then some .walk else none
def emptyS : StS := ⟨[], [], 0⟩
theorem walk_new (w : World) (lo : Nat) (G : Nat → Gh) (Y : TypeId) (hl : lo ≤ w.heap.size) : WAt (w.alloc (.cells #[.pointer none, .slice none 0 0, .int .i64 0] Y)) (walkT w.heap.size) lo w.heap.size G (.slice none 0 0) emptyS :=
  ⟨if_pos rfl, by simp [go_sem, emptyS, curV], by simp [go_sem], by simp [go_sem, emptyS], fun o => by simp [go_sem], RowC.nil _ _ _ _ _ _, fun n f h => by simp [emptyS] at h, fun pre n rest h => by simp [emptyS] at h, by simp [emptyS], by simp; omega, fun k hk => if_neg (by omega), fun k hk => if_neg (by simp at hk; omega), by simp [emptyS], by simp [emptyS]⟩
theorem resolve2_any {n : Nat} (S : ScSpec n) {N : Nat} {w : World} {T : Own} {lo p q : Nat} {G : Nat → Gh} {vn : Value} {st : StS} (t : Tree) (v : Value) (h : WAt w T lo p G vn st) (hN : N ≤ st.fns.length) (hs : st.stack ≠ []) (ht : SlO w lo t v) (hw : wfT t) (hb : stsB t = true) (hz : szT t ≤ n) (hD : goS t st ≠ .out)
    (h1 : w.cell? ⟨q, 0, none⟩ = some v) :
    Calls Try.prog 33 #[pV p, pV q] w (EndsS N T lo p G (goS t st) w) := by
  have C := Lib.hid (S.stmts (N := N) t v 0 h hN hs ht hw hb hz hD)
  obtain ⟨A, c, rfl, _⟩ := ht
  generalize goS t st = r1 at C hD ⊢
  clear h hs hw hb S hD
  go_enter Try.func33, Try.ntmps33
  go_wp2_with (first
    | (go_at_call 34; (with_reducible refine C.out.mono ?_); intro e w2 hE; rcases r1 with _ | ⟨cc, ll⟩ | ⟨st2⟩; (· exact hE.elim); (· obtain ⟨b0, T', rfl, hb1, hb2, hb3⟩ := hE; exact ⟨rfl, ⟨b0, T', rfl, hb1, hb2, hb3⟩⟩); obtain ⟨v2, T2, G2, vn2, rfl, rfl, hW2, ht2, hS2⟩ := hE; have HW2 := Lib.hid hW2; have Ht2 := Lib.hid ht2; have HS2 := Lib.hid hS2; clear hW2 ht2 hS2))
  refine bodyPost_end (results_none rfl _ _ _) rfl ?_
  exact ends_ok rfl HW2.out Ht2.out HS2.out
theorem enter_resolve2 (args : Array Value) (w : World) : (callFunc 33 args).run Try.prog w = .ok (.enter 33 args) w := enters_of Try.func33 (by kernel_rfl) rfl args w
theorem scope_info : (Try.prog.info? 38).map (fun i => (i.zero, i.size, i.bytes)) = some (some (.agg #[.slice none 0 0, .slice none 0 0, .slice none 0 0]), 3, 72) := by kernel_rfl
theorem own_lower {w : World} {lo lo' : Nat} {e : TypeId} {size n : Nat} {v : Value} {xs : List Value} (h : w.ownsRow lo e size v n xs) (hl : lo' ≤ lo) : w.ownsRow lo' e size v n xs := by
  refine ⟨h.1, ?_⟩
  rcases h.2 with h2 | ⟨g, cap, cur, a, b, c⟩
  · exact .inl h2
  · exact .inr ⟨g, cap, cur, a, Nat.le_trans hl b, c⟩
/-- The scopes so far. -/
structure ResRel (w6 : World) (q : Nat) (G : Nat → Gh) (fs : List FnS) (i : Nat) (vs : Value) (wr : World) : Prop where
  past : Past [q] w6 wr
  cell : wr.cell? ⟨q, 0, none⟩ = some vs
  warm : wr.frozen? ⟨q, 0, none⟩ = false
  row : ∃ ts : List (Value × Value × Value), ts.length = i ∧ wr.ownsRow w6.heap.size 38 3 vs i (ts.flatMap tripV) ∧ ∀ (j : Nat) (t : Value × Value × Value) (f : FnS), ts[j]? = some t → fs[j]? = some f → wr.ownsRow w6.heap.size 40 3 t.1 f.uses.length (f.uses.flatMap (useR f.locals)) ∧ wr.ownsRow w6.heap.size 44 2 t.2.1 f.locals.length (f.locals.flatMap declR) ∧ t.2.2 = (G j).vp
theorem res_next {w6 wr w7 w8 : World} {q i : Nat} {G : Nat → Gh} {fs : List FnS} {vs vu vd V : Value} {f : FnS} {o : Obj} {ts : List (Value × Value × Value)} (h : ResRel w6 q G fs i vs wr) (hq : q < w6.heap.size) (hf : fs[i]? = some f) (hb : Below wr.heap.size wr w7)
    (ru : w7.ownsRow w6.heap.size 40 3 vu f.uses.length (f.uses.flatMap (useR f.locals))) (rd : w7.ownsRow w6.heap.size 44 2 vd f.locals.length (f.locals.flatMap declR))
    (hts : ts.length = i) (hrow : wr.ownsRow w6.heap.size 38 3 vs i (ts.flatMap tripV)) (hel : ∀ (j : Nat) (t : Value × Value × Value) (f : FnS), ts[j]? = some t → fs[j]? = some f → wr.ownsRow w6.heap.size 40 3 t.1 f.uses.length (f.uses.flatMap (useR f.locals)) ∧ wr.ownsRow w6.heap.size 44 2 t.2.1 f.locals.length (f.locals.flatMap declR) ∧ t.2.2 = (G j).vp)
    (ho : w8.ownsRow w6.heap.size 38 3 V (i + 1) (ts.flatMap tripV ++ [vu, vd, (G i).vp])) (hg : (w7.alloc o).grownBy w8 vs.ownBlock) :
    ResRel w6 q G fs (i + 1) V (w8.setCell ⟨q, 0, none⟩ V) := by
  have hsz := h.past.size
  have hsz7 := hb.size
  have hv : ∀ k, vs.ownBlock = some k → w6.heap.size ≤ k := fun k hk => (hrow.lt k hk).1
  have hqv : some q ≠ vs.ownBlock := fun e => by have := hv q e.symm; omega
  have C : w8.cell? ⟨q, 0, none⟩ = wr.cell? ⟨q, 0, none⟩ := (hg.cell_far ⟨q, 0, none⟩ (by simp; omega) hqv).trans ((World.cell?_alloc_lt _ _ ⟨q, 0, none⟩ (by show q < _; omega)).trans (hb.cell (p := ⟨q, 0, none⟩) (by show q < _; omega)))
  have Z : w8.frozen? ⟨q, 0, none⟩ = wr.frozen? ⟨q, 0, none⟩ := (hg.frozen_far ⟨q, 0, none⟩ (by simp; omega) hqv).trans ((World.frozen?_of_block (a := ⟨q, 0, none⟩) (Below.heap_alloc _ _ _ (show q < _ by omega))).trans (hb.frozen (p := ⟨q, 0, none⟩) (by show q < _; omega)))
  -- a row of other elements
  have K : ∀ {e : TypeId} {size n : Nat} {v : Value} {xs : List Value}, w7.ownsRow w6.heap.size e size v n xs → (∀ k, v.ownBlock = some k → vs.ownBlock ≠ some k) → (w8.setCell ⟨q, 0, none⟩ V).ownsRow w6.heap.size e size v n xs := fun {e size n v xs} h7 hne => row_keep h7 fun k hk => (Below.heap_setCell _ _ _ _ (show k ≠ q by have := (h7.lt k hk).1; omega)).trans ((hg.block k (by have := (h7.lt k hk).2; simp; omega) (Ne.symm (hne k hk))).trans (Below.heap_alloc _ _ _ (h7.lt k hk).2))
  have hrow7 : w7.ownsRow w6.heap.size 38 3 vs i (ts.flatMap tripV) := own_below hrow hb
  refine ⟨?_, World.cell?_setCell_same _ _ _ (C.trans h.cell), (World.frozen?_setCell _ _ _ _).trans (Z.trans h.warm), ts ++ [(vu, vd, (G i).vp)], by simp [hts], ?_, fun j t f' ht hf' => ?_⟩
  · refine Past.setCell ?_ (.inl (by simp)) _
    exact ((h.past.below hb).alloc o).grown hg fun k hk => .inr (hv k hk)
  · rw [List.flatMap_append]
    have e : [(vu, vd, (G i).vp)].flatMap tripV = [vu, vd, (G i).vp] := by simp [tripV]
    rw [e]
    exact row_keep ho fun k hk => Below.heap_setCell _ _ _ _ (show k ≠ q by have := (ho.lt k hk).1; omega)
  · by_cases e : j < i
    · rw [List.getElem?_append_left (by omega)] at ht
      obtain ⟨h1, h2, h3⟩ := hel j t f' ht hf'
      exact ⟨K (own_below h1 hb) (rows_apart h1 hrow (by decide)), K (own_below h2 hb) (rows_apart h2 hrow (by decide)), h3⟩
    · have hl := (List.getElem?_eq_some_iff.1 ht).1
      have e2 : j = ts.length := by simp at hl; omega
      subst e2
      have et : (vu, vd, (G i).vp) = t := by simpa using ht
      subst et
      rw [hts] at hf'
      rw [hf] at hf'
      injection hf' with hf'
      subst hf'
      rw [hts]
      exact ⟨K ru (rows_apart ru hrow7 (by decide)), K rd (rows_apart rd hrow7 (by decide)), rfl⟩
set_option maxHeartbeats 8000000 in
theorem Resolve_any (w : World) (t : Tree) (v : Value) (ht : SlO w w.heap.size t v) (hw : wfT t) (hb : stsB t = true) (hz : szT t ≤ 1099511627776) (hD : resolveS t ≠ .out) :
    Calls Try.prog 9 #[v] w (GivesS (resolveS t) w) := by
  obtain ⟨A, c, rfl, hrow⟩ := ht
  have hD1 : goS t startS ≠ .out := bindS_done hD
  have hmf : ∀ (fn : Fn) (first cap : Array Value) (w : World), (Instr.makeFunc fn first cap).run Try.prog w = .ok (.func fn first cap) w := fun _ _ _ _ => rfl
  have S := spec_all 1099511627776 (by decide)
  obtain ⟨W3, hW3⟩ : ∃ W3, ((w.alloc (.cells #[.slice A (lenT t) c] 23)).alloc (.cells #[.slice none 0 0] 28)).alloc (.cells #[.nilIface] 30) = W3 := ⟨_, rfl⟩
  have hz3 : W3.heap.size = w.heap.size + 3 := by rw [← hW3]; simp
  have b0 : W3.cell? ⟨w.heap.size, 0, none⟩ = some (.slice A (lenT t) c) := by rw [← hW3]; simp [go_sem]
  have b1 : W3.cell? ⟨w.heap.size + 1, 0, none⟩ = some (.slice none 0 0) := by rw [← hW3]; simp [go_sem]
  have b2 : W3.cell? ⟨w.heap.size + 2, 0, none⟩ = some .nilIface := by rw [← hW3]; simp [go_sem]
  have z1 : W3.frozen? ⟨w.heap.size + 1, 0, none⟩ = false := by rw [← hW3]; simp [go_sem]
  have z2 : W3.frozen? ⟨w.heap.size + 2, 0, none⟩ = false := by rw [← hW3]; simp [go_sem]
  have B3 : Below w.heap.size w W3 := by rw [← hW3]; exact (((Below.refl _ _).alloc (Nat.le_refl _) _).alloc (by simp) _).alloc (by simp; omega) _
  have WN := walk_new W3 w.heap.size (fun _ => newG 0) 71 (by omega)
  obtain ⟨W4, hW4⟩ : ∃ W4, W3.alloc (.cells #[.pointer none, .slice none 0 0, .int .i64 0] 71) = W4 := ⟨_, rfl⟩
  have B34 : Below W3.heap.size W3 W4 := by rw [← hW4]; exact (Below.refl _ _).alloc (Nat.le_refl _) _
  have hz4 : W4.heap.size = w.heap.size + 4 := by rw [← hW4]; simp [hz3]
  rw [hW4, hz3] at WN
  have c0 := below_cell B34 b0
  have c1 := below_cell B34 b1
  have c2 := below_cell B34 b2
  have y1 := (B34.frozen (p := ⟨w.heap.size + 1, 0, none⟩) (show w.heap.size + 1 < W3.heap.size by omega)).trans z1
  have y2 := (B34.frozen (p := ⟨w.heap.size + 2, 0, none⟩) (show w.heap.size + 2 < W3.heap.size by omega)).trans z2
  have B4 : Below w.heap.size w W4 := B3.trans (B34.mono (by omega))
  have hrow4 : RowT W4 (fun k => k < w.heap.size) t A 0 := (at_keep (fun g hg => ⟨hg, B4.block g hg⟩) t).2 _ _ hrow
  have t0 : ∀ k, k ≠ w.heap.size + 3 → walkT (w.heap.size + 3) k = none := fun k hk => if_neg hk
  have C := inFunction_any (N := 0) (K := 33) (caps := #[pV (w.heap.size + 3), pV w.heap.size]) (r := goS t startS) WN (by decide) (Nat.zero_le _) (fun w1 T1 G1 vn1 hw1 ht1 => resolve2_any S (N := 1) t (.slice A (lenT t) c) hw1 (by decide) (fun e => by cases e) ⟨A, c, rfl, (tree_turn WN ht1).2 _ _ hrow4⟩ hw hb hz hD1 (ht1.cell_free c0 (t0 w.heap.size (by omega)))) (fun w => enter_resolve2 _ w) (fun st1 e => goS_keeps t startS st1 e) hD1
  show Calls _ _ _ w (GivesS ((goS t startS).bind leaveS) w)
  have hDR : (goS t startS).bind leaveS ≠ .out := hD
  generalize (goS t startS).bind leaveS = R at C hDR ⊢
  have HC := Lib.hid C
  have HB4 := Lib.hid B4
  clear C hrow hrow4 S WN hD hD1 B3 B34 b0 b1 b2 z1 z2 hw hb hz B4
  cases R with
  | out => exact absurd rfl hDR
  | bad cc l =>
    go_enter_defers Try.func9, Try.ntmps9
    go_wp2_with (first
      | (go_at_call 32; (with_reducible refine HC.out.mono ?_); rintro e w6 hB; obtain ⟨b', T', rfl, hb1, hb2, hb3⟩ := hB))
    have qa6 := hb3.cell_free c1 (t0 _ (show w.heap.size + 1 ≠ _ by omega))
    have qb6 := hb3.cell_free c2 (t0 _ (show w.heap.size + 2 ≠ _ by omega))
    have ra6 := (World.frozen?_of_block (a := ⟨w.heap.size + 1, 0, none⟩) (hb3.free (k := w.heap.size + 1) (by omega) (t0 _ (by omega)))).trans y1
    have rb6 := (World.frozen?_of_block (a := ⟨w.heap.size + 2, 0, none⟩) (hb3.free (k := w.heap.size + 2) (by omega) (t0 _ (by omega)))).trans y2
    have B6 : Below w.heap.size w w6 := HB4.out.trans (hb3.below (by omega) fun k hk => t0 k (by omega))
    refine leaves_cons (f := 31) (args := #[pV (w.heap.size + 1), pV (w.heap.size + 2)]) (by simp) (by simp [go_sem]) ?_
    refine (catch_panic (w.heap.size + 1) (w.heap.size + 2) b' _ _ (by omega) qa6 ra6 _ qb6 rb6).mono ?_
    rintro e u' w7 ⟨rfl, rfl, h1, h2, h3⟩
    refine ⟨_, results_two rfl rfl rfl h1 h2, ?_⟩
    exact ⟨B6.trans (h3.toBelow (by have := B6.size; omega) (by intro i hi; simp at hi; omega)), b', rfl, by omega, hb2.keep (h3.block b' (World.block_lt_of_cell? _ _ hb2.1) (by simp; omega))⟩
  | ok st =>
    obtain ⟨i9, hii, hz0, hz1, hz2⟩ := info_parts scope_info
    go_enter_defers Try.func9, Try.ntmps9
    go_wp2_with (first
      | (go_at_call 32; (with_reducible refine HC.out.mono ?_); rintro e w6 ⟨v6, T6, G6, vn6, rfl, rfl, hW6, ht6, hS6⟩; have qa6 := ht6.cell_free c1 (t0 (w.heap.size + 1) (by omega)); have qb6 := ht6.cell_free c2 (t0 (w.heap.size + 2) (by omega)); have ra6 := (World.frozen?_of_block (a := ⟨w.heap.size + 1, 0, none⟩) (ht6.free (k := w.heap.size + 1) (by omega) (t0 _ (by omega)))).trans y1; have rb6 := (World.frozen?_of_block (a := ⟨w.heap.size + 2, 0, none⟩) (ht6.free (k := w.heap.size + 2) (by omega) (t0 _ (by omega)))).trans y2; have HB6 : Hid (Below w.heap.size w w6) := Lib.hid (HB4.out.trans (ht6.below (by omega) fun k hk => t0 k (by omega))); obtain ⟨An, cn, hvn, hcn, hcm⟩ := slice_form hW6.rn; have x1 := hW6.c1; rw [hvn] at x1; have hmany := hW6.many; have hz6 := ht6.size; have tq := (ht6.own (w.heap.size + 1) (by omega)).trans (t0 _ (by omega)); have tq2 := (ht6.own (w.heap.size + 2) (by omega)).trans (t0 _ (by omega)); have REL := Lib.hid (ResRel.mk (Past.refl _ _) qa6 ra6 ⟨[], rfl, World.ownsRow_nil _ _ _ _, fun j t f h => by simp at h⟩ : ResRel w6 (w.heap.size + 1) G6 st.fns 0 (.slice none 0 0) w6); have HW6 := Lib.hid hW6; clear hW6 ht6 hS6 qa6 ra6 c0 c1 c2 y1 y2))
    have hq6 : w.heap.size + 1 < w6.heap.size := by omega
    go_loopg [13] st.fns.length (fun m v wr => ∃ (i : Nat) (vs : Value), v = iV i ∧ i + m = st.fns.length ∧ Hid (ResRel w6 (w.heap.size + 1) G6 st.fns i vs wr))
    case atStart => exact ⟨0, .slice none 0 0, rfl, by simp, REL⟩
    case round =>
      obtain ⟨i, vs, rfl, him, hS⟩ := hrel
      clear REL
      have s1 := hS.out.cell
      have s2 := hS.out.warm
      have hpz := hS.out.past.size
      have FK : ∀ n f, st.fns[n]? = some f → FnAt wr T6 w.heap.size n (G6 n) f := fun n f hf => (HW6.out.fn n f hf).keep fun k t hk h1 _ => by
        refine ⟨hS.out.past.block k hk (fun e => ?_), rfl⟩
        have e : k = w.heap.size + 1 := by simpa using e
        rw [e, tq] at h1; cases h1
      obtain ⟨ts, hts, hrow, hel⟩ := hS.out.row
      cases gk with
      | zero =>
        have hi : i = st.fns.length := by omega
        subst hi
        obtain ⟨Bs, bs, rfl⟩ := own_slice hrow
        have u1 := hS.out.past.cell_some qb6 (by simp)
        have u2 := (hS.out.past.frozen (p := ⟨w.heap.size + 2, 0, none⟩) (by show w.heap.size + 2 < _; omega) (by simp)).trans rb6
        have HFK := Lib.hid FK
        have Hrow := Lib.hid hrow
        have Hel := Lib.hid hel
        have Hpast := Lib.hid hS.out.past
        clear FK hrow hel hS
        go_wp2_with fail
        refine leaves_cons (f := 31) (args := #[pV (w.heap.size + 1), pV (w.heap.size + 2)]) (by simp) (by simp [go_sem]) ?_
        refine (catch_idle (w.heap.size + 1) (w.heap.size + 2) _).mono ?_
        rintro e u' w7 ⟨rfl, rfl, rfl⟩
        have hW : ((wr.setCell ⟨w.heap.size + 1, 0, none⟩ (.slice Bs st.fns.length bs)).setCell ⟨w.heap.size + 2, 0, none⟩ .nilIface).cell? ⟨w.heap.size + 1, 0, none⟩ = some (.slice Bs st.fns.length bs) := (cell_set_block (by omega) _).trans (World.cell?_setCell_same _ _ _ s1)
        have hW2 : ((wr.setCell ⟨w.heap.size + 1, 0, none⟩ (.slice Bs st.fns.length bs)).setCell ⟨w.heap.size + 2, 0, none⟩ .nilIface).cell? ⟨w.heap.size + 2, 0, none⟩ = some .nilIface := World.cell?_setCell_same _ _ _ ((cell_set_block (by omega) _).trans u1)
        refine ⟨_, results_two rfl rfl rfl hW hW2, ?_⟩
        have PW : Past [w.heap.size + 1, w.heap.size + 2] w6 ((wr.setCell ⟨w.heap.size + 1, 0, none⟩ (.slice Bs st.fns.length bs)).setCell ⟨w.heap.size + 2, 0, none⟩ .nilIface) := ((Hpast.out.mono (by simp)).setCell (.inl (by simp)) _).setCell (.inl (by simp)) _
        have N : ∀ k, k ≠ w.heap.size + 1 → k ≠ w.heap.size + 2 → ((wr.setCell ⟨w.heap.size + 1, 0, none⟩ (.slice Bs st.fns.length bs)).setCell ⟨w.heap.size + 2, 0, none⟩ .nilIface).heap[k]? = wr.heap[k]? := fun k h1 h2 => (Below.heap_setCell _ _ _ _ (show k ≠ w.heap.size + 2 from h2)).trans (Below.heap_setCell _ _ _ _ (show k ≠ w.heap.size + 1 from h1))
        refine ⟨HB6.out.trans (PW.toBelow (by omega) (by intro i hi; simp at hi; omega)), _, rfl, ts, hts, Reads.of (row_keep Hrow.out fun k hk => N k (by have := (Hrow.out.lt k hk).1; omega) (by have := (Hrow.out.lt k hk).1; omega)), fun j t f ht hf => ?_⟩
        obtain ⟨h1, h2, h3⟩ := Hel.out j t f ht hf
        refine ⟨Reads.of (row_keep h1 fun k hk => N k (by have := (h1.lt k hk).1; omega) (by have := (h1.lt k hk).1; omega)), Reads.of (row_keep h2 fun k hk => N k (by have := (h2.lt k hk).1; omega) (by have := (h2.lt k hk).1; omega)), ?_⟩
        rw [h3]
        have hp := (HFK.out j f hf).rp
        refine Reads.of (row_keep hp.row fun k hk => N k (fun e => ?_) (fun e => ?_))
        · have := hp.tag k hk; rw [e, tq] at this; cases this
        · have := hp.tag k hk; rw [e, tq2] at this; cases this
      | succ m =>
        obtain ⟨f, hf⟩ : ∃ f, st.fns[i]? = some f := ⟨_, List.getElem?_eq_getElem (by omega)⟩
        obtain ⟨Av, cv, hvs', hcv', hcvm'⟩ : ∃ A c, vs = .slice A i c ∧ i ≤ c ∧ c ≤ maxLen := by
          rcases row_form hrow with ⟨rfl, h0⟩ | ⟨g, cap, rfl, _, h1, h2⟩
          · subst h0; exact ⟨none, 0, rfl, Nat.le_refl _, by decide⟩
          · exact ⟨_, cap, rfl, h1, h2⟩
        subst hvs'
        obtain ⟨rn, hrn⟩ : ∃ rn, An = some ⟨rn, 0, none⟩ := by
          rcases row_form HW6.out.rn.row with ⟨h0, h1⟩ | ⟨g', cap, h0, _, _, _⟩
          · omega
          · rw [hvn] at h0; injection h0 with h0; exact ⟨g', h0⟩
        subst hrn
        have hrw := HW6.out.rn.row
        rw [hvn] at hrw
        have hrnq : rn ≠ w.heap.size + 1 := fun e => by have := HW6.out.rn.tag rn (by rw [hvn]; rfl); rw [e, tq] at this; cases this
        have d0 : wr.cell? ⟨rn, i, none⟩ = some (pV (G6 i).b) := hS.out.past.cell_some (row_cell hrw (by unfold fnsV; rw [List.getElem?_map, List.getElem?_range (by omega)]; rfl)) (by simpa using hrnq)
        have F := FK i f hf
        obtain ⟨vp, hvp⟩ : ∃ vp, (G6 i).vp = vp := ⟨_, rfl⟩
        have C := scope_any F.drew
        rw [hvp] at C
        obtain ⟨Bp, bp, hvp2⟩ := own_slice F.rp.row
        have q0 : (0 : Int) ≤ (i : Int) := by omega
        have q1 : (i : Int) < (st.fns.length : Int) := by omega
        have HC2 := Lib.hid C
        have Hf := Lib.hid hf
        have Hvp := Lib.hid hvp
        have Hrow := Lib.hid hrow
        have Hel := Lib.hid hel
        have HSS := Lib.hid hS.out
        have hqr : w.heap.size + 1 < wr.heap.size := by omega
        clear FK hrow hel hS F C hf hvp hrw hrnq
        obtain rfl : vp = .slice Bp f.ups.length bp := Hvp.out.symm.trans hvp2
        clear hvp2
        go_wp2_with fail
        refine wp_region_noPanic ?_
        go_region_law (first
          | (go_simp; go_at_call 35; (with_reducible refine HC2.out.mono ?_); rintro e w7 ⟨vu, vd, rfl, hO⟩; obtain ⟨Bu, bu, rfl⟩ := own_slice hO.ru; obtain ⟨Bd, bd, rfl⟩ := own_slice hO.rd; have hzz : wr.heap.size ≤ w7.heap.size := hO.below.size; have e1 := (hO.below.cell (p := ⟨w.heap.size + 1, 0, none⟩) (show w.heap.size + 1 < _ from hqr)).trans s1; have hrow7 := own_below (Hrow.out) (show Below wr.heap.size wr w7 from ⟨hO.below.os, hO.below.tape, hO.below.output, hO.below.size, hO.below.block⟩); have HR7 := Lib.hid (hrow7.alloc (.cells #[.slice Bu f.uses.length bu, .slice Bd f.locals.length bd, .slice Bp f.ups.length bp] 38)); have N7 := Lib.hid (three_new w7 (.slice Bu f.uses.length bu) (.slice Bd f.locals.length bd) (.slice Bp f.ups.length bp) 38); have HO := Lib.hid hO; have hqr7 : w.heap.size + 1 < w7.heap.size := (by omega); have hqr71 : w.heap.size + 1 < w7.heap.size + 1 := (by omega); clear hO hrow7)
          | (refine step_append_lies _ rfl (.tmp 17) (.tmp 20) 28 rfl w6.heap.size 38 i9 _ 3 72 Try.underlying28 hii hz0 hz1 hz2 rfl (by decide) (.slice Av i cv) i _ rfl HR7.out ⟨w7.heap.size, 0, none⟩ 1 1 [.slice Bu f.uses.length bu, .slice Bd f.locals.length bd, .slice Bp f.ups.length bp] rfl rfl N7.out (by simp [Value.oneCell']) (by decide) (by unfold maxLen; omega) (by omega) (by simp; omega) _ rfl ?_; intro r cap w8 hown8 hgrow8 hat8 hlt8; have hqv : some (w.heap.size + 1) ≠ Value.ownBlock (.slice Av i cv) := (fun e => by have := (HR7.out.lt _ e.symm).1; omega); have e2 := (hgrow8.cell_far ⟨w.heap.size + 1, 0, none⟩ (by simp; omega) hqv).trans ((World.cell?_alloc_lt _ _ ⟨w.heap.size + 1, 0, none⟩ hqr7).trans ((HO.out.below.cell (p := ⟨w.heap.size + 1, 0, none⟩) (show w.heap.size + 1 < _ from hqr)).trans s1)); have e3 := (hgrow8.frozen_far ⟨w.heap.size + 1, 0, none⟩ (by simp; omega) hqv).trans ((World.frozen?_of_block (a := ⟨w.heap.size + 1, 0, none⟩) (Below.heap_alloc _ _ _ hqr7)).trans ((HO.out.below.frozen (p := ⟨w.heap.size + 1, 0, none⟩) (show w.heap.size + 1 < _ from hqr)).trans s2)); have Ho8 := Lib.hid hown8; have Hg8 := Lib.hid hgrow8; clear hown8 hgrow8 hat8))
        all_goals
          change Exit.inBlock 1 _ Exit.normal _ _
          go_wp2_with fail
          go_roundg m
          case measure => omega
          case rel =>
            refine ⟨i + 1, _, by simp, by omega, Lib.hid (res_next HSS.out hq6 Hf.out ⟨HO.out.below.os, HO.out.below.tape, HO.out.below.output, HO.out.below.size, HO.out.below.block⟩ (own_lower HO.out.ru (show _ ≤ wr.heap.size + 1 + 1 by omega)) (own_lower HO.out.rd (show _ ≤ wr.heap.size + 1 + 1 by omega)) hts Hrow.out Hel.out (by rw [Hvp.out]; exact Ho8.out) Hg8.out)⟩
end Go.Proofs.Ytlbbbfmnghcdnaa
