/- Expressions with all their parentheses, parsed: just what they say; or too deep. No walk. -/
import Derived.Test.YtebkdegcifkigaaGreatDoorParWholeM
namespace Go.Proofs.YtebkdegcifkigaaGreatDoor.P5
set_option maxRecDepth 20000

theorem p_operation (n least d : Nat) (ts : List Tok) : parseF (n + 1) (.operation least) d ts = (parseF n .operand d ts).bind fun e ts => parseF n (.opLoop least e) d ts := rfl
theorem p_opLoop (n least d : Nat) (e : Tree) (ts : List Tok) : parseF (n + 1) (.opLoop least e) d ts = if least ≤ strengthT (sgnT ts) then (parseF n (.behind e) d ts).bind fun e ts => parseF n (.opLoop least e) d ts else .ok e ts := rfl
theorem p_behind (n d : Nat) (l : Tree) (ts : List Tok) : parseF (n + 1) (.behind l) d ts = if sgnT ts = [46, 46] then (beginT [46, 46] d ts).bind fun _ ts2 => (parseF n (.operation 8) (d + 1) ts2).bind fun r ts3 => .ok (.ex 11 (linT ts) 0 (sgnT ts) l r .nil .nil .nil .nil) ts3
      else (wantT (sgnT ts) ts).bind fun _ ts2 => (parseF n (.operation (strengthT (sgnT ts) + 1)) d ts2).bind fun r ts3 => .ok (.ex 11 (linT ts) 0 (sgnT ts) l r .nil .nil .nil .nil) ts3 := rfl
theorem p_operand (n d : Nat) (ts : List Tok) : parseF (n + 1) .operand d ts = if sgnT ts = [110, 111, 116] ∨ sgnT ts = [45] ∨ sgnT ts = [35] ∨ sgnT ts = [126] then
        (beginT (sgnT ts) d ts).bind fun _ ts2 => (parseF n .operand (d + 1) ts2).bind fun r ts3 => .ok (.ex 10 (linT ts) 0 (sgnT ts) .nil r .nil .nil .nil .nil) ts3
      else (parseF n .postExpr d ts).bind fun x ts2 => .ok x.snd ts2 := rfl
theorem p_postExpr (n d : Nat) (ts : List Tok) : parseF (n + 1) .postExpr d ts = (parseF n .primary d ts).bind fun e ts2 => parseF n (.postLoop e (decide (sgnT ts = [40]))) d ts2 := rfl
theorem p_postLoop (n d : Nat) (e : Tree) (b : Bool) (ts : List Tok) (h1 : sgnT ts ≠ [91]) (h2 : sgnT ts ≠ [46]) (h3 : sgnT ts ≠ [40]) : parseF (n + 1) (.postLoop e b) d ts = .ok (.cons (flagT b) e) ts := by
  rw [show parseF (n + 1) (.postLoop e b) d ts = if sgnT ts = [91] then (parseF n (.enclosed [91] [93]) d ts).bind fun x ts2 => parseF n (.postLoop (.ex 7 (linT ts) 0 [] e x .nil .nil .nil .nil) false) d ts2
      else if sgnT ts = [46] then (namedT 5 ts.tail).bind fun x ts2 => parseF n (.postLoop (.ex 7 (linT ts) 0 [] e x .nil .nil .nil .nil) false) d ts2
      else if sgnT ts = [40] then (parseF n (.list [40] [41] 0) d ts).bind fun x ts2 => parseF n (.postLoop (.ex 8 (linT ts) 0 [] e .nil .nil x .nil .nil) false) d ts2
      else .ok (.cons (flagT b) e) ts from rfl, if_neg h1, if_neg h2, if_neg h3]
theorem p_primary (n d : Nat) (ts : List Tok) : parseF (n + 1) .primary d ts = if sgnT ts = [40] then parseF n (.enclosed [40] [41]) d ts
      else if sgnT ts = [102, 117, 110, 99, 116, 105, 111, 110] then parseF n .function d ts
      else if sgnT ts = [123] then parseF n .table d ts
      else wordT ts := rfl
theorem p_enclosed (n d : Nat) (a b : List UInt8) (ts : List Tok) : parseF (n + 1) (.enclosed a b) d ts = (beginT a d ts).bind fun _ ts2 => (parseF n (.operation 1) (d + 1) ts2).bind fun e ts3 => (wantT b ts3).bind fun _ ts4 => .ok e ts4 := rfl
theorem sgn_cons (s : List UInt8) (l : Nat) (r : List Tok) : sgnT (⟨4, s, 0, l⟩ :: r) = s := rfl
theorem lin_cons (k : Nat) (s : List UInt8) (r : List Tok) : linT (⟨k, s, 0, 0⟩ :: r) = 0 := rfl
theorem want_cons (s : List UInt8) (r : List Tok) : wantT s (⟨4, s, 0, 0⟩ :: r) = .ok .nil r := by unfold wantT; rw [if_pos (sgn_cons s 0 r)]; rfl
theorem begin_cons (s : List UInt8) (d : Nat) (r : List Tok) : beginT s d (⟨4, s, 0, 0⟩ :: r) = if d = 64 then .bad 3 0 else .ok .nil r := by
  unfold beginT
  rw [sgn_cons, want_cons, lin_cons]
  by_cases h : d = 64
  · rw [if_pos ⟨rfl, h⟩, if_pos h]
  · rw [if_neg (fun x => h x.2), if_neg h]
theorem bind_ok (x : Tree) (ts : List Tok) (f : Tree → List Tok → Res) : (Res.ok x ts).bind f = f x ts := rfl
theorem bind_bad (c : Int) (l : Nat) (f : Tree → List Tok → Res) : (Res.bad c l).bind f = .bad c l := rfl
theorem un_first (u : Nat) : unB u = [110, 111, 116] ∨ unB u = [45] ∨ unB u = [35] ∨ unB u = [126] := by
  unfold unB
  have h : u % 4 < 4 := Nat.mod_lt _ (by decide)
  generalize u % 4 = i at h
  match i, h with
  | 0, _ => exact .inl rfl
  | 1, _ => exact .inr (.inl rfl)
  | 2, _ => exact .inr (.inr (.inl rfl))
  | 3, _ => exact .inr (.inr (.inr rfl))
  | n + 4, h => omega
theorem op_strong (o : Nat) : 1 ≤ strengthT (opB o) ∧ strengthT (opB o) ≤ 10 ∧ opB o ≠ [91] ∧ opB o ≠ [46] ∧ opB o ≠ [40] := by
  unfold opB
  have h : o % 19 < 19 := Nat.mod_lt _ (by decide)
  generalize o % 19 = i at h
  have : ((List.range 19).all fun i => decide (1 ≤ strengthT (opsL.getD i []) ∧ strengthT (opsL.getD i []) ≤ 10 ∧ opsL.getD i [] ≠ [91] ∧ opsL.getD i [] ≠ [46] ∧ opsL.getD i [] ≠ [40])) = true := by decide +kernel
  exact of_decide_eq_true (List.all_eq_true.1 this i (List.mem_range.2 h))
/-- Nothing that goes on with a primary comes. -/
def calm (ts : List Tok) : Prop := sgnT ts ≠ [91] ∧ sgnT ts ≠ [46] ∧ sgnT ts ≠ [40]
theorem calm_close (r : List Tok) : calm (⟨4, [41], 0, 0⟩ :: r) := by unfold calm; rw [sgn_cons]; decide
theorem calm_op (o : Nat) (r : List Tok) : calm (⟨4, opB o, 0, 0⟩ :: r) := by unfold calm; rw [sgn_cons]; exact (op_strong o).2.2
/-- An operation of an operand alone, ahead of a parenthesis. -/
theorem op_stop (n least d : Nat) (hl : 1 ≤ least) (e : Tree) (r : List Tok) : parseF (n + 1) (.opLoop least e) d (⟨4, [41], 0, 0⟩ :: r) = .ok e (⟨4, [41], 0, 0⟩ :: r) := by
  rw [p_opLoop, sgn_cons, if_neg (by rw [show strengthT [41] = 0 from rfl]; omega)]
/-- What stands in parentheses, as an operand. -/
theorem paren_ok {n d : Nat} {ts r : List Tok} {e : Tree} (hd : d < 64) (hr : calm r) (h : parseF (n + 1) (.operation 1) (d + 1) ts = .ok e (⟨4, [41], 0, 0⟩ :: r)) : parseF (n + 5) .operand d (⟨4, [40], 0, 0⟩ :: ts) = .ok e r := by
  rw [p_operand, sgn_cons, if_neg (by decide), p_postExpr, p_primary, sgn_cons, if_pos rfl, p_enclosed, begin_cons, if_neg (by omega), bind_ok, h, bind_ok, want_cons, bind_ok, bind_ok, p_postLoop _ _ _ _ _ hr.1 hr.2.1 hr.2.2, bind_ok]
  rfl
theorem paren_bad {n d : Nat} {ts : List Tok} (h : d = 64 ∨ parseF (n + 1) (.operation 1) (d + 1) ts = .bad 3 0) : parseF (n + 5) .operand d (⟨4, [40], 0, 0⟩ :: ts) = .bad 3 0 := by
  rw [p_operand, sgn_cons, if_neg (by decide), p_postExpr, p_primary, sgn_cons, if_pos rfl, p_enclosed, begin_cons]
  by_cases hd : d = 64
  · rw [if_pos hd]; rfl
  · rw [if_neg hd, bind_ok, h.resolve_left hd]; rfl
theorem parse_fm : ∀ (f : Fm) (n d : Nat) (r : List Tok), costF f ≤ n → d ≤ 64 → calm r → parseF n .operand d (tkF f ++ r) = if fitsF d f = true then .ok (treeF f) r else .bad 3 0
  | .nm s, n, d, r, hn, _, hr => by
    obtain ⟨m, rfl⟩ : ∃ m, n = m + 4 := ⟨n - 4, by simp only [costF] at hn; omega⟩
    show parseF (m + 4) .operand d (⟨1, [s], 0, 0⟩ :: r) = _
    have hs : sgnT (⟨1, [s], 0, 0⟩ :: r) = [] := rfl
    rw [p_operand, hs, if_neg (by decide), p_postExpr, p_primary, hs, if_neg (by decide), if_neg (by decide), if_neg (by decide)]
    show (Res.bind (Res.bind (.ok (.ex 6 0 0 [s] .nil .nil .nil .nil .nil .nil) r) _) _) = _
    rw [bind_ok, p_postLoop _ _ _ _ _ hr.1 hr.2.1 hr.2.2, bind_ok]
    simp only [fitsF, if_true]; rfl
  | .un u f, n, d, r, hn, hd, hr => by
    obtain ⟨m, rfl⟩ : ∃ m, n = m + 5 := ⟨n - 5, by simp only [costF] at hn; omega⟩
    have e : tkF (.un u f) ++ r = ⟨4, [40], 0, 0⟩ :: (⟨4, unB u, 0, 0⟩ :: (tkF f ++ ⟨4, [41], 0, 0⟩ :: r)) := by simp only [tkF, List.cons_append, List.append_assoc, List.nil_append]
    rw [e]
    obtain ⟨k, rfl⟩ : ∃ k, m = k + 2 := ⟨m - 2, by simp only [costF] at hn; omega⟩
    by_cases h1 : d < 64
    · have hop : parseF (k + 2 + 1) (.operation 1) (d + 1) (⟨4, unB u, 0, 0⟩ :: (tkF f ++ ⟨4, [41], 0, 0⟩ :: r)) = if (decide (d + 1 < 64) && fitsF (d + 2) f) = true then .ok (treeF (.un u f)) (⟨4, [41], 0, 0⟩ :: r) else .bad 3 0 := by
        rw [p_operation, p_operand, sgn_cons, if_pos (un_first u), begin_cons]
        by_cases h2 : d + 1 < 64
        · rw [if_neg (by omega), bind_ok, parse_fm f (k + 1) (d + 1 + 1) _ (by simp only [costF] at hn; omega) (by omega) (calm_close r), decide_eq_true h2, Bool.true_and]
          by_cases h3 : fitsF (d + 2) f = true
          · rw [if_pos h3, if_pos h3, bind_ok, bind_ok, op_stop _ _ _ (by decide), lin_cons]; rfl
          · rw [if_neg h3, if_neg h3]; rfl
        · rw [if_pos (by omega), decide_eq_false h2, Bool.false_and, if_neg (by decide)]; rfl
      simp only [fitsF, decide_eq_true h1, Bool.true_and]
      by_cases h4 : (decide (d + 1 < 64) && fitsF (d + 2) f) = true
      · rw [if_pos h4] at hop ⊢
        exact paren_ok h1 hr hop
      · rw [if_neg h4] at hop ⊢
        exact paren_bad (.inr hop)
    · simp only [fitsF, decide_eq_false h1, Bool.false_and]
      rw [if_neg (by decide)]
      exact paren_bad (.inl (by omega))
  | .bin o f g, n, d, r, hn, hd, hr => by
    obtain ⟨m, rfl⟩ : ∃ m, n = m + 5 := ⟨n - 5, by simp only [costF] at hn; omega⟩
    have e : tkF (.bin o f g) ++ r = ⟨4, [40], 0, 0⟩ :: (tkF f ++ ⟨4, opB o, 0, 0⟩ :: (tkF g ++ ⟨4, [41], 0, 0⟩ :: r)) := by simp only [tkF, List.cons_append, List.append_assoc, List.nil_append]
    rw [e]
    obtain ⟨k, rfl⟩ : ∃ k, m = k + 4 := ⟨m - 4, by simp only [costF] at hn; omega⟩
    obtain ⟨s1, s2, s3, s4, s5⟩ := op_strong o
    by_cases h1 : d < 64
    · have hop : parseF (k + 4 + 1) (.operation 1) (d + 1) (tkF f ++ ⟨4, opB o, 0, 0⟩ :: (tkF g ++ ⟨4, [41], 0, 0⟩ :: r)) = if (fitsF (d + 1) f && (if dotsB o = true then decide (d + 1 < 64) && fitsF (d + 2) g else fitsF (d + 1) g)) = true then .ok (treeF (.bin o f g)) (⟨4, [41], 0, 0⟩ :: r) else .bad 3 0 := by
        rw [p_operation, parse_fm f (k + 4) (d + 1) _ (by simp only [costF] at hn; omega) (by omega) (calm_op o _)]
        by_cases h2 : fitsF (d + 1) f = true
        · rw [if_pos h2, bind_ok, p_opLoop, sgn_cons, if_pos s1, p_behind, sgn_cons, h2, Bool.true_and]
          by_cases h3 : opB o = [46, 46]
          · have hdots : dotsB o = true := by unfold dotsB; rw [h3]; rfl
            rw [if_pos h3, if_pos hdots]
            rw [show beginT [46, 46] (d + 1) (⟨4, opB o, 0, 0⟩ :: (tkF g ++ ⟨4, [41], 0, 0⟩ :: r)) = if d + 1 = 64 then .bad 3 0 else .ok .nil (tkF g ++ ⟨4, [41], 0, 0⟩ :: r) from by rw [h3]; exact begin_cons _ _ _]
            by_cases h4 : d + 1 < 64
            · rw [if_neg (by omega), bind_ok, p_operation, parse_fm g (k + 1) (d + 1 + 1) _ (by simp only [costF] at hn; omega) (by omega) (calm_close r), decide_eq_true h4, Bool.true_and]
              by_cases h5 : fitsF (d + 2) g = true
              · rw [if_pos h5, if_pos h5, bind_ok, op_stop _ _ _ (by decide), bind_ok, bind_ok, op_stop _ _ _ (by decide), lin_cons]; rfl
              · rw [if_neg h5, if_neg h5]; rfl
            · rw [if_pos (by omega), decide_eq_false h4, Bool.false_and, if_neg (by decide)]; rfl
          · have hdots : ¬ dotsB o = true := by unfold dotsB; rw [beq_iff_eq]; exact h3
            rw [if_neg h3, if_neg hdots, want_cons, bind_ok, p_operation, parse_fm g (k + 1) (d + 1) _ (by simp only [costF] at hn; omega) (by omega) (calm_close r)]
            by_cases h5 : fitsF (d + 1) g = true
            · rw [if_pos h5, if_pos h5, bind_ok, op_stop _ _ _ (by omega), bind_ok, bind_ok, op_stop _ _ _ (by decide), lin_cons]; rfl
            · rw [if_neg h5, if_neg h5]; rfl
        · rw [if_neg h2, Bool.not_eq_true] at *
          rw [h2, Bool.false_and, if_neg (by decide)]; rfl
      simp only [fitsF, decide_eq_true h1, Bool.true_and]
      by_cases h4 : (fitsF (d + 1) f && (if dotsB o = true then decide (d + 1 < 64) && fitsF (d + 2) g else fitsF (d + 1) g)) = true
      · rw [if_pos h4] at hop ⊢
        exact paren_ok h1 hr hop
      · rw [if_neg h4] at hop ⊢
        exact paren_bad (.inr hop)
    · simp only [fitsF, decide_eq_false h1, Bool.false_and]
      rw [if_neg (by decide)]
      exact paren_bad (.inl (by omega))
end Go.Proofs.YtebkdegcifkigaaGreatDoor.P5
