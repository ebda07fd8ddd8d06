/- What the resolver says of nested's trees: as a plain fact. -/
import Derived.Test.YtlbbbfmnghcdnaaScNest
namespace Go.Proofs.Ytlbbbfmnghcdnaa
set_option maxRecDepth 20000
open Go.RowKit Go.Maps

def isSt : Tree → Bool
  | .st .. => true
  | _ => false
theorem goS_cons {h t : Tree} {st : StS} (hh : isSt h = true) : goS (.cons h t) st = (goS h st).bind (goS t) := by
  cases h <;> simp [isSt] at hh
  rfl
theorem bindS_bind (r : ResS) (f g : StS → ResS) : (r.bind f).bind g = r.bind fun s => (f s).bind g := by cases r <;> rfl
theorem goS_append : ∀ (a b : List Tree) (st : StS), (∀ x ∈ a, isSt x = true) → goS (treeL (a ++ b)) st = (goS (treeL a) st).bind (goS (treeL b))
  | [], _, _, _ => rfl
  | x :: r, b, st, h => by
    show goS (.cons x (treeL (r ++ b))) st = (goS (.cons x (treeL r)) st).bind _
    rw [goS_cons (h x (by simp)), goS_cons (h x (by simp)), bindS_bind]
    congr 1
    funext s
    exact goS_append r b s fun y hy => h y (by simp [hy])
theorem goS_one {x : Tree} {st : StS} (h : isSt x = true) : goS (treeL [x]) st = goS x st := by
  show goS (.cons x .nil) st = _
  rw [goS_cons h]
  cases goS x st <;> rfl
theorem isSt_nestB : ∀ n, ∀ x ∈ nestB n, isSt x = true
  | 0, x, h => by simp [nestB] at h
  | n + 1, x, h => by
    rw [nestB, List.mem_append] at h
    rcases h with h | h
    · exact isSt_nestB n x h
    · simp at h
      rcases h with rfl | rfl <;> rfl
theorem isSt_nestT : ∀ (l : List Nat) (f : Nat), ∀ x ∈ (nestT l f).1, isSt x = true
  | [], _, x, h => by simp [nestT] at h
  | k :: r, f, x, h => by
    rw [nestT] at h
    split at h
    · simp at h
      rcases h with rfl | rfl <;> rfl
    · simp at h
      rcases h with h | rfl
      · exact isSt_nestB _ x h
      · rfl
/-- From one function to what it is later: so many locals more, each used once. -/
structure MoreF (f0 f1 : FnS) (ws : List Nat) : Prop where
  locals : f1.locals = f0.locals ++ ws.map fun r => ⟨[97], r, false⟩
  uses : ∃ us, f1.uses = f0.uses ++ us ∧ us.map (fun u => (u.at_, u.index)) = ws.map fun r => (1, r)
  ups : f1.ups = f0.ups
theorem MoreF.refl (f : FnS) : MoreF f f [] := ⟨by simp, ⟨[], by simp, rfl⟩, rfl⟩
theorem MoreF.trans {a b c : FnS} {ws vs : List Nat} (h : MoreF a b ws) (k : MoreF b c vs) : MoreF a c (ws ++ vs) := by
  obtain ⟨u1, h1, h2⟩ := h.uses
  obtain ⟨u2, k1, k2⟩ := k.uses
  exact ⟨by rw [k.locals, h.locals]; simp, ⟨u1 ++ u2, by rw [k1, h1]; simp, by rw [List.map_append, h2, k2, List.map_append]⟩, k.ups.trans h.ups⟩
theorem MoreF.lens {a b : FnS} {ws : List Nat} (h : MoreF a b ws) : b.locals.length = a.locals.length + ws.length ∧ b.uses.length = a.uses.length + ws.length := by
  obtain ⟨u1, h1, h2⟩ := h.uses
  have := congrArg List.length h2
  simp at this
  exact ⟨by rw [h.locals]; simp, by rw [h1]; simp; omega⟩
theorem MoreF.full {a b : FnS} {ws : List Nat} (h : MoreF a b ws) (q : List Nat) : MoreF a { b with full := q } ws := ⟨h.locals, h.uses, h.ups⟩
theorem named_last (ls : List LocS) (s : List UInt8) : ∀ (l : List Nat) (i : Nat), (ls.getD i default).name = s → namedIn ls s (l ++ [i]) = some i
  | [], i, h => by simp only [List.nil_append, namedIn, h, if_true]
  | x :: r, i, h => by
    rw [List.cons_append, namedIn, named_last ls s r i h]
def step1 (f : FnS) : FnS := (f.declare [97]).addUse ⟨1, f.full.length, some f.locals.length⟩
theorem step1_more (f : FnS) : MoreF f (step1 f) [f.full.length] := ⟨rfl, ⟨_, rfl, rfl⟩, rfl⟩
theorem loc_go {f : FnS} {p : Nat} (hp : p < 65536) (hf : f.full.length < 100) (hl : f.locals.length < 1048576) : goS (locT [97]) ⟨[f], [0], p⟩ = .ok ⟨[f.declare [97]], [0], p + 1⟩ := by
  have h1 : beginS 0 ⟨[f], [0], p⟩ = .ok ⟨[f], [0], p + 1⟩ := by unfold beginS; rw [if_neg (by simp; omega)]
  have h2 : declareS [97] 0 ⟨[f], [0], p + 1⟩ = .ok ⟨[f.declare [97]], [0], p + 1⟩ := by
    unfold declareS
    have e : (StS.fn ⟨[f], [0], p + 1⟩) = f := rfl
    rw [e, if_neg (by omega), if_neg (by omega)]
    rfl
  unfold locT goS
  rw [h1, bindS_ok, if_pos rfl]
  exact h2
theorem use_go {f : FnS} {p : Nat} (hu : f.uses.length < 1048576) : useS [97] 0 ⟨[f.declare [97]], [0], p⟩ = .ok ⟨[step1 f], [0], p⟩ := by
  have hn : ((f.locals ++ [(⟨[97], f.full.length, false⟩ : LocS)]).getD f.locals.length default) = ⟨[97], f.full.length, false⟩ := by simp
  have e : findS [97] 0 [0] [f.declare [97]] = .ok [f.declare [97]] ⟨1, f.full.length, some f.locals.length⟩ := by
    unfold findS
    have h1 : (([f.declare [97]] : List FnS).getD 0 default) = f.declare [97] := rfl
    have h2 : (f.declare [97]).named [97] = some f.locals.length := by
      show namedIn (f.locals ++ [⟨[97], f.full.length, false⟩]) [97] (f.full ++ [f.locals.length]) = _
      exact named_last _ _ _ _ (by rw [hn])
    rw [h1, h2]
    show FindS.ok _ ⟨1, (((f.locals ++ [(⟨[97], f.full.length, false⟩ : LocS)]).getD f.locals.length default)).reg, _⟩ = _
    rw [hn]
  unfold useS
  have e0 : (StS.fn ⟨[f.declare [97]], [0], p⟩) = f.declare [97] := rfl
  rw [e0, if_neg (by show ¬ 1048576 ≤ f.uses.length; omega)]
  show (match findS [97] 0 [0] [f.declare [97]] with
    | .bad l => ResS.bad 3 l
    | .ok fns u => .ok ⟨fns.modify 0 fun f => f.addUse u, [0], p⟩) = _
  rw [e]
  rfl
theorem call_go {f : FnS} {p : Nat} (hp : p + 3 < 65536) (hu : f.uses.length < 1048576) : goS callT ⟨[f.declare [97]], [0], p⟩ = .ok ⟨[step1 f], [0], p + 3⟩ := by
  have hb : ∀ (g : FnS) (q : Nat), q < 65536 → beginS 0 ⟨[g], [0], q⟩ = .ok ⟨[g], [0], q + 1⟩ := by
    intro g q hq; unfold beginS; rw [if_neg (by simp; omega)]
  have h3 : goS (nmT [97]) ⟨[f.declare [97]], [0], p + 2⟩ = .ok ⟨[step1 f], [0], p + 3⟩ := by
    unfold nmT goS
    rw [hb _ _ (by omega), bindS_ok, if_pos rfl]
    exact use_go hu
  have h2 : goS (.ex 8 0 0 [] (nmT [97]) .nil .nil .nil .nil .nil) ⟨[f.declare [97]], [0], p + 1⟩ = .ok ⟨[step1 f], [0], p + 3⟩ := by
    rw [goS]
    rw [hb _ _ (by omega), bindS_ok, if_neg (by decide), if_pos rfl]
    show (goS (nmT [97]) _).bind (goS .nil) = _
    rw [h3]; rfl
  unfold callT
  rw [goS, hb _ _ (by omega), bindS_ok, if_neg (by decide), if_pos rfl]
  exact h2
theorem pairs_go : ∀ (n : Nat) (f : FnS) (p : Nat), p + 4 * n < 65536 → f.full.length + n ≤ 100 → f.locals.length + n ≤ 1000 → f.uses.length + n ≤ 1000 →
    ∃ f' p' e, goS (treeL (nestB n)) ⟨[f], [0], p⟩ = .ok ⟨[f'], [0], p'⟩ ∧ MoreF f f' (nestW f.full.length n) ∧ p' = p + 4 * n ∧ f'.full = f.full ++ e ∧ e.length = n
  | 0, f, p, _, _, _, _ => ⟨f, p, [], rfl, MoreF.refl f, rfl, by simp, rfl⟩
  | n + 1, f, p, h1, h2, h3, h4 => by
    obtain ⟨f', p', e, g, m, rfl, he, hn⟩ := pairs_go n f p (by omega) (by omega) (by omega) (by omega)
    have hl := m.lens
    rw [nestW_len] at hl
    have hfl : f'.full.length = f.full.length + n := by rw [he, List.length_append, hn]
    refine ⟨step1 f', p + 4 * n + 4, e ++ [f'.locals.length], ?_, ?_, by omega, by show f'.full ++ _ = _; rw [he, List.append_assoc], by simp [hn]⟩
    · rw [nestB, goS_append _ _ _ (isSt_nestB n), g, bindS_ok]
      show goS (.cons (locT [97]) (.cons callT .nil)) _ = _
      rw [goS_cons rfl, loc_go (by omega) (by omega) (by omega), bindS_ok, goS_cons rfl, call_go (by omega) (by omega), bindS_ok]
      rfl
    · rw [nestW]
      have := step1_more f'
      rw [hfl] at this
      exact m.trans this
theorem do_go {l : List Tree} {f f' : FnS} {p p' : Nat} {e : List Nat} (hp : p < 65536) (h : goS (treeL l) ⟨[f], [0], p + 1⟩ = .ok ⟨[f'], [0], p'⟩) (he : f'.full = f.full ++ e) : goS (doT l) ⟨[f], [0], p⟩ = .ok ⟨[{ f' with full := f.full }], [0], p'⟩ := by
  have hb : beginS 0 ⟨[f], [0], p⟩ = .ok ⟨[f], [0], p + 1⟩ := by unfold beginS; rw [if_neg (by simp; omega)]
  unfold doT
  rw [goS, hb, bindS_ok, if_neg (by decide), if_neg (by decide), if_pos rfl, h, bindS_ok]
  show ResS.ok ⟨[f'.back f.full.length], [0], p'⟩ = _
  have : f'.back f.full.length = { f' with full := f.full } := by
    unfold FnS.back
    rw [he, List.take_left']
    rfl
  rw [this]
theorem nest_go : ∀ (l : List Nat) (f : FnS) (p : Nat), p + 20 * l.length < 60000 → f.full.length + 3 * l.length ≤ 100 → f.locals.length + 3 * l.length ≤ 1000 → f.uses.length + 3 * l.length ≤ 1000 →
    ∃ f' p' e, goS (treeL (nestT l f.full.length).1) ⟨[f], [0], p⟩ = .ok ⟨[f'], [0], p'⟩ ∧ MoreF f f' (nestT l f.full.length).2 ∧ p' ≤ p + 20 * l.length ∧ f'.full = f.full ++ e
  | [], f, p, _, _, _, _ => ⟨f, p, [], rfl, MoreF.refl f, by simp, by simp⟩
  | k :: r, f, p, h1, h2, h3, h4 => by
    rw [List.length_cons] at h1 h2 h3 h4
    have m4 : k % 4 < 4 := Nat.mod_lt _ (by decide)
    by_cases hk : 4 ≤ k % 8
    · rw [show nestT (k :: r) f.full.length = ([doT (nestB (k % 4))] ++ [doT (nestT r f.full.length).1], nestW f.full.length (k % 4) ++ (nestT r f.full.length).2) from by rw [nestT, if_pos hk]]
      obtain ⟨f1, p1, e1, g1, m1, hp1, he1, hn1⟩ := pairs_go (k % 4) f (p + 1) (by omega) (by omega) (by omega) (by omega)
      have d1 := do_go (by omega) g1 he1
      have hl := m1.lens
      rw [nestW_len] at hl
      obtain ⟨f2, p2, e2, g2, m2, hp2, he2⟩ := nest_go r { f1 with full := f.full } (p1 + 1) (by omega) (by show f.full.length + _ ≤ _; omega) (by show f1.locals.length + _ ≤ _; omega) (by show f1.uses.length + _ ≤ _; omega)
      have d2 := do_go (l := (nestT r f.full.length).1) (f := { f1 with full := f.full }) (p := p1) (by omega) g2 he2
      refine ⟨{ f2 with full := f.full }, p2, [], ?_, (m1.full f.full).trans (m2.full f.full), by rw [List.length_cons]; omega, by simp⟩
      rw [goS_append _ _ _ (by intro x hx; simp at hx; subst hx; rfl), goS_one rfl, d1, bindS_ok, goS_one rfl, d2]
    · rw [show nestT (k :: r) f.full.length = (nestB (k % 4) ++ [doT (nestT r (f.full.length + k % 4)).1], nestW f.full.length (k % 4) ++ (nestT r (f.full.length + k % 4)).2) from by rw [nestT, if_neg hk]]
      obtain ⟨f1, p1, e1, g1, m1, hp1, he1, hn1⟩ := pairs_go (k % 4) f p (by omega) (by omega) (by omega) (by omega)
      have hl := m1.lens
      rw [nestW_len] at hl
      have hfl : f1.full.length = f.full.length + k % 4 := by rw [he1, List.length_append, hn1]
      obtain ⟨f2, p2, e2, g2, m2, hp2, he2⟩ := nest_go r f1 (p1 + 1) (by omega) (by omega) (by omega) (by omega)
      rw [hfl] at g2 m2
      have d2 := do_go (p := p1) (by omega) g2 he2
      refine ⟨{ f2 with full := f1.full }, p2, e1, ?_, m1.trans (m2.full f1.full), by rw [List.length_cons]; omega, he1⟩
      rw [goS_append _ _ _ (isSt_nestB _), g1, bindS_ok, goS_one rfl, d2]
/-- All that Resolve says of nested's trees. -/
theorem nest_res (l : List Nat) (hl : l.length ≤ 20) : ∃ f' p', resolveS (treeL (nestT l 0).1) = .ok ⟨[f'], [], p'⟩ ∧ MoreF FnS.new f' (nestT l 0).2 := by
  obtain ⟨f', p', e, g, m, _, _⟩ := nest_go l FnS.new 0 (by omega) (by show 0 + _ ≤ _; omega) (by show 0 + _ ≤ _; omega) (by show 0 + _ ≤ _; omega)
  refine ⟨f', p', ?_, m⟩
  show (goS (treeL (nestT l 0).1) ⟨[FnS.new], [0], 0⟩).bind leaveS = _
  have g' : goS (treeL (nestT l 0).1) ⟨[FnS.new], [0], 0⟩ = .ok ⟨[f'], [0], p'⟩ := g
  rw [g']
  rfl
end Go.Proofs.Ytlbbbfmnghcdnaa
