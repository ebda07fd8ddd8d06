/- So many parts has what is read of so many tokens. No walk, no program. | Parentheses around what stands behind 'a =': the same statements, but for lines. No walk, no program. -/
import Derived.Test.YtoggkigfijgbfaaGreatDoorZH
import Derived.Test.YtoggkigfijgbfaaGreatDoorZPrRound
import Derived.Test.YtoggkigfijgbfaaGreatDoorZK
import Derived.Test.YtoggkigfijgbfaaGreatDoorZI
namespace Go.Proofs.YtoggkigfijgbfaaGreatDoor.P6
set_option maxRecDepth 20000

/-- So many parts, against three for each token that is taken; c: what is over. -/
def SzR (r : Res) (c m : Nat) : Prop := ∀ t us, r = .ok t us → sizeT t + 3 * us.length + c ≤ m
theorem SzR.out {c m : Nat} : SzR .out c m := fun _ _ h => by cases h
theorem SzR.bad {e : Int} {l c m : Nat} : SzR (.bad e l) c m := fun _ _ h => by cases h
theorem SzR.ok {x : Tree} {u : List Tok} {c m : Nat} (h : sizeT x + 3 * u.length + c ≤ m) : SzR (.ok x u) c m := fun _ _ e => by injection e with e1 e2; subst e1; subst e2; exact h
theorem SzR.bind {r : Res} {f : Tree → List Tok → Res} {c m C M : Nat} (h : SzR r c m) (hf : ∀ x u, sizeT x + 3 * u.length + c ≤ m → SzR (f x u) C M) : SzR (r.bind f) C M := by
  cases r with
  | out => exact SzR.out
  | bad c l => exact SzR.bad
  | ok x u => exact hf x u (h x u rfl)
theorem SzR.imp {r : Res} {c m C M : Nat} (h : SzR r c m) (hc : m + C ≤ M + c) : SzR r C M := fun t us e => by have := h t us e; omega
theorem tail3 {ts : List Tok} (h : ts ≠ []) : 3 * ts.tail.length + 3 = 3 * ts.length := by
  cases ts with
  | nil => exact absurd rfl h
  | cons t r => simp only [List.tail_cons, List.length_cons]; omega
theorem tail0 (ts : List Tok) : 3 * ts.tail.length ≤ 3 * ts.length := by rw [List.length_tail]; omega
theorem sgn_ne6 {ts : List Tok} {s : List UInt8} (h : sgnT ts = s) (hs : s ≠ []) : ts ≠ [] := by rintro rfl; exact hs h.symm
theorem SzR.want (s : List UInt8) (ts : List Tok) (hs : s ≠ []) : SzR (wantT s ts) 3 (3 * ts.length) := by
  unfold wantT; split
  · rename_i h
    have := tail3 (sgn_ne6 h hs)
    exact SzR.ok (by simp only [sizeT]; omega)
  · exact SzR.bad
theorem SzR.want0 (s : List UInt8) (ts : List Tok) : SzR (wantT s ts) 0 (3 * ts.length) := by
  unfold wantT; split
  · have := tail0 ts
    exact SzR.ok (by simp only [sizeT]; omega)
  · exact SzR.bad
theorem SzR.begin (s : List UInt8) (d : Nat) (ts : List Tok) (hs : s ≠ []) : SzR (beginT s d ts) 3 (3 * ts.length) := by
  unfold beginT; split
  · exact SzR.bad
  · exact SzR.want s ts hs
theorem SzR.begin0 (s : List UInt8) (d : Nat) (ts : List Tok) : SzR (beginT s d ts) 0 (3 * ts.length) := by
  unfold beginT; split
  · exact SzR.bad
  · exact SzR.want0 s ts
theorem kind_ne6 {ts : List Tok} {k : Nat} (h : (hdT ts).kind = k) (hk : k ≠ 5) : ts ≠ [] := by rintro rfl; exact hk h.symm
theorem SzR.name (ts : List Tok) : SzR (nameT ts) 3 (3 * ts.length) := by
  unfold nameT; split
  · rename_i h
    have := tail3 (kind_ne6 h (by decide))
    exact SzR.ok (by simp only [sizeT]; omega)
  · exact SzR.bad
theorem SzR.named (k : Int) (ts : List Tok) : SzR (namedT k ts) 2 (3 * ts.length) := by
  unfold namedT
  exact (SzR.name ts).bind fun _ _ h => SzR.ok (by simp only [sizeT]; omega)
theorem SzR.word (ts : List Tok) : SzR (wordT ts) 2 (3 * ts.length) := by
  unfold wordT
  split
  · rename_i h; have := tail3 (kind_ne6 h (by decide)); exact SzR.ok (by simp only [sizeT]; omega)
  split
  · rename_i h; have := tail3 (kind_ne6 h (by decide)); exact SzR.ok (by simp only [sizeT]; omega)
  split
  · rename_i h; have := tail3 (kind_ne6 h (by decide)); exact SzR.ok (by simp only [sizeT]; omega)
  split
  · exact SzR.bad
  · rename_i h
    have : ts ≠ [] := by rintro rfl; exact h rfl
    have := tail3 this
    exact SzR.ok (by simp only [exT, sizeT]; omega)
theorem size_two : ∀ x : Tree, sizeT (firstsT x) + sizeT (secondsT x) ≤ sizeT x
  | .cons h t => by
    have := size_two t
    have h2 : sizeT h.fst + sizeT h.snd ≤ sizeT h := by
      cases h <;> simp [Tree.fst, Tree.snd, sizeT]
    simp only [firstsT, secondsT, sizeT]; omega
  | .nil => by simp [firstsT, secondsT, sizeT]
  | .tx _ => by simp [firstsT, secondsT, sizeT]
  | .ex .. => by simp [firstsT, secondsT, sizeT]
  | .st .. => by simp [firstsT, secondsT, sizeT]
theorem size_fs (x : Tree) : sizeT x.fst + sizeT x.snd ≤ sizeT x := by cases x <;> simp [Tree.fst, Tree.snd, sizeT]
theorem size_withB (s e : Tree) : sizeT (withB s e) ≤ sizeT s + sizeT e := by cases s <;> simp [withB, sizeT] <;> omega
theorem size_snoc6 (l : List Tree) (x : Tree) : sizeT (treeL (l ++ [x])) = sizeT (treeL l) + sizeT x := by
  induction l with
  | nil => simp [treeL, sizeT]
  | cons a l ih => simp only [List.cons_append, treeL, sizeT, ih]; omega
theorem size_flag (b : Bool) : sizeT (flagT b) = 0 := by cases b <;> rfl
/-- What a call has over. -/
def cG : Goal → Nat
  | .operation _ => 2
  | .operand => 2
  | .postExpr => 2
  | .primary => 2
  | .enclosed _ _ => 2
  | .function => 2
  | .namedFunction => 2
  | .table => 2
  | .list [] _ _ => 0
  | .list _ _ _ => 3
  | .condition _ _ => 1
  | _ => 0
/-- What a call is handed. -/
def eG : Goal → Nat
  | .opLoop _ e => sizeT e
  | .behind e => sizeT e
  | .postLoop e _ => sizeT e
  | .listLoop _ _ acc => sizeT (treeL acc)
  | .stmtsLoop acc => sizeT (treeL acc)
  | _ => 0
set_option maxHeartbeats 8000000 in
theorem sz_parse : ∀ (n : Nat) (g : Goal) (d : Nat) (ts : List Tok), SzR (parseF n g d ts) (cG g) (eG g + 3 * ts.length)
  | 0, _, _, _ => SzR.out
  | n + 1, g, d, ts => by
    have ih := sz_parse n
    have t0 := tail0 ts
    have t3 : ∀ s : List UInt8, sgnT ts = s → s ≠ [] → 3 * ts.tail.length + 3 = 3 * ts.length := fun s h hs => tail3 (sgn_ne6 h hs)
    have hso : (sgnT ts = [110, 111, 116] ∨ sgnT ts = [45] ∨ sgnT ts = [35] ∨ sgnT ts = [126]) → sgnT ts ≠ [] := by
      rintro (h | h | h | h) <;> (rw [h]; decide)
    cases g <;> simp only [parseF]
    case list first last k =>
      cases first with
      | nil =>
        refine SzR.bind (SzR.begin0 _ _ _) (fun x u hu => ?_)
        split
        · exact SzR.bind (SzR.want0 _ _) (fun x u hu => SzR.ok (by simp only [cG, eG, sizeT] at *; omega))
        · refine SzR.bind (ih _ _ _) (fun x u hu => (ih _ _ _).imp ?_)
          simp only [cG, eG, sizeT, treeL] at *; omega
      | cons a l =>
        refine SzR.bind (SzR.begin _ _ _ (by simp)) (fun x u hu => ?_)
        split
        · exact SzR.bind (SzR.want0 _ _) (fun x u hu => SzR.ok (by simp only [cG, eG, sizeT] at *; omega))
        · refine SzR.bind (ih _ _ _) (fun x u hu => (ih _ _ _).imp ?_)
          simp only [cG, eG, sizeT, treeL] at *; omega
    all_goals
      repeat' (first
        | exact SzR.bad
        | (refine SzR.bind (ih _ _ _) (fun x u hu => ?_))
        | (refine SzR.bind (SzR.want _ _ (by decide)) (fun x u hu => ?_))
        | (refine SzR.bind (SzR.begin _ _ _ (by decide)) (fun x u hu => ?_))
        | (refine SzR.bind (SzR.begin _ _ _ (hso (by assumption))) (fun x u hu => ?_))
        | (refine SzR.bind (SzR.want0 _ _) (fun x u hu => ?_))
        | (refine SzR.bind (SzR.begin0 _ _ _) (fun x u hu => ?_))
        | (refine SzR.bind (SzR.name _) (fun x u hu => ?_))
        | (refine SzR.bind (SzR.named _ _) (fun x u hu => ?_))
        | (refine (ih _ _ _).imp ?_; simp only [cG, eG, sizeT, size_snoc6, treeL] at *; omega)
        | (refine (SzR.word _).imp ?_; simp only [cG, eG]; omega)
        | (refine (SzR.name _).imp ?_; simp only [cG, eG]; omega)
        | (refine SzR.ok ?_; simp only [cG, eG, sizeT, size_snoc6, size_flag] at *; omega)
        | split)
    all_goals
      refine SzR.ok ?_
      simp only [cG, eG, sizeT] at *
      first
        | (have f := size_fs x; omega)
        | (have f := size_two x; omega)
        | (have f := t3 _ (by assumption) (by decide); omega)
        | (rename_i x1 u1 hu1 h1; have f := size_withB x1 (.cons x .nil); simp only [sizeT] at f; omega)
        | (rename_i x1 u1 hu1 h1 h2 x2 u2 hu2; have f := size_withB x1 x2; omega)
        | (rename_i x1 u1 hu1 h1 x2 u2 hu2 h2; have f := tail0 u2; omega)
        | (rename_i x1 u1 hu1 h1 h2 h3 x2 u2 hu2; have f := size_fs x1; omega)
end Go.Proofs.YtoggkigfijgbfaaGreatDoor.P6
namespace Go.Proofs.YtoggkigfijgbfaaGreatDoor.P6
set_option maxRecDepth 20000
open P5

def retW : List UInt8 := [114, 101, 116, 117, 114, 110]
def tokA : Tok := ⟨1, [97], 0, 0⟩
def tokE : Tok := ⟨4, [61], 0, 0⟩
def tokO : Tok := ⟨4, [40], 0, 0⟩
def tailA (l : Nat) : List Tok := [⟨4, retW, 0, l + 1⟩, ⟨5, [], 0, l + 1⟩]
def tailB (l : Nat) : List Tok := [⟨4, [41], 0, l + 1⟩, ⟨4, retW, 0, l + 2⟩, ⟨5, [], 0, l + 2⟩]
theorem tails (l : Nat) : Tails (tailA l) (tailB l) := ⟨rfl, rfl, rfl, rfl, rfl, rfl⟩
theorem lex_tailA (l : Nat) : tokL (10 :: retW) l = ⟨tailA l, 0, l + 1⟩ := by
  rw [tokL_space l (by decide), if_pos rfl]
  rfl
theorem lex_tailB (l : Nat) : tokL (10 :: 41 :: 10 :: retW) l = ⟨tailB l, 0, l + 2⟩ := by
  rw [tokL_space l (by decide), if_pos rfl]
  rfl
theorem step6 {w r : List UInt8} {k : Nat} {x : List UInt8} (l : Nat) (hw : w ≠ []) (hk : kindL (w ++ r) ≠ 0) (h : wordL (w ++ r) = ⟨0, k, x, 0, w.length⟩) : tokL (w ++ r) l = pushL ⟨k, x, 0, l⟩ (tokL r l) := by
  rw [tokL_word l (by cases w with | nil => exact absurd rfl hw | cons => simp) hk (by rw [h]), h]
  show pushL _ (tokL ((w ++ r).drop w.length) l) = _
  rw [List.drop_left']
  rfl
theorem sp6 (r : List UInt8) (l : Nat) : tokL (32 :: r) l = tokL r l := by rw [tokL_space l (by decide), if_neg (by decide)]; rfl
theorem lex_head (r : List UInt8) : tokL (97 :: 32 :: 61 :: 32 :: r) 0 = pushL tokA (pushL tokE (tokL r 0)) := by
  have h1 : tokL (97 :: 32 :: 61 :: 32 :: r) 0 = pushL tokA (tokL (32 :: 61 :: 32 :: r) 0) := step6 (w := [97]) 0 (by simp) (by rw [show kindL ([97] ++ 32 :: 61 :: 32 :: r) = 1 from rfl]; decide) rfl
  have h2 : tokL (61 :: 32 :: r) 0 = pushL tokE (tokL (32 :: r) 0) := step6 (w := [61]) 0 (by simp) (by rw [show kindL ([61] ++ 32 :: r) = 4 from rfl]; decide) rfl
  rw [h1, sp6, h2, sp6]
theorem lex_open (r : List UInt8) : tokL (40 :: r) 0 = pushL tokO (tokL r 0) := step6 (w := [40]) 0 (by simp) (by rw [show kindL ([40] ++ r) = 4 from rfl]; decide) rfl
theorem push_ok {t : Tok} {r : Lexed} (h : (pushL t r).err = 0) : r.err = 0 ∧ (pushL t r).toks = t :: r.toks := by
  unfold pushL at *
  split at h
  · rename_i h0; exact ⟨h0, by rw [if_pos h0]⟩
  · rename_i h0; exact absurd h h0
theorem push_yes {t : Tok} {r : Lexed} (h : r.err = 0) : (pushL t r).err = 0 ∧ (pushL t r).toks = t :: r.toks := by
  unfold pushL; rw [if_pos h]; exact ⟨h, rfl⟩
theorem glue_yes {a : List Tok} {r : Lexed} (h : r.err = 0) : (glueL a r).err = 0 ∧ (glueL a r).toks = a ++ r.toks := by
  unfold glueL; rw [if_pos h]; exact ⟨h, rfl⟩
/-- The words of both. -/
theorem round_lex (T : List UInt8) (hT : T.length ≤ 1000) (h : (lexL (97 :: 32 :: 61 :: 32 :: (T ++ 10 :: retW))).err = 0) :
    ∃ X l, (lexL (97 :: 32 :: 61 :: 32 :: (T ++ 10 :: retW))).toks = tokA :: tokE :: (X ++ tailA l) ∧ (lexL (97 :: 32 :: 61 :: 32 :: 40 :: (T ++ 10 :: 41 :: 10 :: retW))).err = 0 ∧ (lexL (97 :: 32 :: 61 :: 32 :: 40 :: (T ++ 10 :: 41 :: 10 :: retW))).toks = tokA :: tokE :: tokO :: (X ++ tailB l) := by
  have e1 : lexL (97 :: 32 :: 61 :: 32 :: (T ++ 10 :: retW)) = tokL (97 :: 32 :: 61 :: 32 :: (T ++ 10 :: retW)) 0 := by
    unfold lexL
    rw [if_neg (by simp [retW]; omega)]
  have e2 : lexL (97 :: 32 :: 61 :: 32 :: 40 :: (T ++ 10 :: 41 :: 10 :: retW)) = tokL (97 :: 32 :: 61 :: 32 :: 40 :: (T ++ 10 :: 41 :: 10 :: retW)) 0 := by
    unfold lexL
    rw [if_neg (by simp [retW]; omega)]
  rw [e1, lex_head] at h ⊢
  rw [e2, lex_head, lex_open]
  obtain ⟨h1, g1⟩ := push_ok h
  obtain ⟨h2, g2⟩ := push_ok h1
  rcases lex_two retW (41 :: 10 :: retW) T.length T 0 (Nat.le_refl _) with hb | ⟨X, l, q1, q2⟩
  · exact absurd h2 hb
  · rw [q1, lex_tailA] at h2 g1 g2
    rw [lex_tailA] at q1
    rw [lex_tailB] at q2
    obtain ⟨a1, a2⟩ := glue_yes (a := X) (r := ⟨tailB l, 0, l + 2⟩) rfl
    have a3 := (glue_yes (a := X) (r := ⟨tailA l, 0, l + 1⟩) rfl)
    rw [q2, q1]
    obtain ⟨b1, b2⟩ := push_yes (t := tokO) a1
    obtain ⟨c1, c2⟩ := push_yes (t := tokE) b1
    obtain ⟨d1, d2⟩ := push_yes (t := tokA) c1
    obtain ⟨f1, f2⟩ := push_yes (t := tokE) a3.1
    obtain ⟨k1, k2⟩ := push_yes (t := tokA) f1
    exact ⟨X, l, by rw [k2, f2, a3.2], d1, by rw [d2, c2, b2, a2]⟩
theorem q_stmts (n d : Nat) (ts : List Tok) : parseF (n + 1) .stmts d ts = parseF n (.stmtsLoop []) d ts := rfl
theorem q_loop (n d : Nat) (acc : List Tree) (ts : List Tok) : parseF (n + 1) (.stmtsLoop acc) d ts = if endsT ts = true then .ok (treeL acc) ts else (parseF n .stmt d ts).bind fun s ts2 => if isRet s = true then .ok (treeL (acc ++ [s])) ts2 else parseF n (.stmtsLoop (acc ++ [s])) d ts2 := rfl
theorem q_stmt (n d : Nat) {ts : List Tok} (hs : sgnT ts = [] ∨ sgnT ts = [41]) : parseF (n + 1) .stmt d ts = parseF n (.post (linT ts)) d ts := by
  rcases hs with hs | hs <;> simp [parseF, hs]
theorem q_post (n d l : Nat) (ts : List Tok) : parseF (n + 1) (.post l) d ts = (parseF n .postExpr d ts).bind fun x ts2 =>
      if isNil x.fst = false then .bad 4 (linT ts2)
      else if kindT x.snd = 8 then .ok (.st 3 l [] .nil x.snd .nil .nil .nil) ts2
      else if kindT x.snd = 6 ∨ kindT x.snd = 7 then (wantT [61] ts2).bind fun _ ts3 => (parseF n (.operation 1) d ts3).bind fun e ts4 => .ok (.st 2 l [] x.snd e .nil .nil .nil) ts4
      else .bad 4 (linT ts2) := rfl
theorem q_postExpr (n d : Nat) (ts : List Tok) : parseF (n + 1) .postExpr d ts = (parseF n .primary d ts).bind fun e ts2 => parseF n (.postLoop e (decide (sgnT ts = [40]))) d ts2 := rfl
theorem q_primary_word (n d : Nat) {ts : List Tok} (hs : sgnT ts = [] ∨ sgnT ts = [41]) : parseF (n + 1) .primary d ts = wordT ts := by
  rcases hs with hs | hs <;> simp [parseF, hs]
theorem q_primary_open (n d : Nat) {ts : List Tok} (hs : sgnT ts = [40]) : parseF (n + 1) .primary d ts = parseF n (.enclosed [40] [41]) d ts := by simp [parseF, hs]
theorem q_postLoop (n d : Nat) (e : Tree) (b : Bool) {ts : List Tok} (hs : sgnT ts = [61] ∨ sgnT ts = retW) : parseF (n + 1) (.postLoop e b) d ts = .ok (.cons (flagT b) e) ts := by
  rcases hs with hs | hs <;> simp [parseF, hs, retW]
theorem q_operation (n d l : Nat) (ts : List Tok) : parseF (n + 1) (.operation l) d ts = (parseF n .operand d ts).bind fun e ts => parseF n (.opLoop l e) d ts := rfl
theorem q_operand (n d : Nat) {ts : List Tok} (hs : sgnT ts = [40]) : parseF (n + 1) .operand d ts = (parseF n .postExpr d ts).bind fun x ts2 => .ok x.snd ts2 := by simp [parseF, hs]
theorem q_opLoop (n d : Nat) (e : Tree) {ts : List Tok} (hs : sgnT ts = retW) : parseF (n + 1) (.opLoop 1 e) d ts = .ok e ts := by
  have : strengthT retW = 0 := by decide
  simp [parseF, hs, this]
theorem q_enclosed (n d : Nat) (a b : List UInt8) (ts : List Tok) : parseF (n + 1) (.enclosed a b) d ts = (beginT a d ts).bind fun _ ts2 => (parseF n (.operation 1) (d + 1) ts2).bind fun e ts3 => (wantT b ts3).bind fun _ ts4 => .ok e ts4 := rfl
theorem q_ret (n l : Nat) (acc : List Tree) : parseF (n + 3) (.stmtsLoop acc) 0 [⟨4, retW, 0, l⟩, ⟨5, [], 0, l⟩] = .ok (treeL (acc ++ [.st 8 l [] .nil .nil .nil .nil .nil])) [⟨5, [], 0, l⟩] := rfl
def nmA : Tree := .ex 6 0 0 [97] .nil .nil .nil .nil .nil .nil
/-- 'a =' and what is behind. -/
theorem stmt_set (n : Nat) (R : List Tok) : parseF (n + 4) .stmt 0 (tokA :: tokE :: R) = (parseF (n + 2) (.operation 1) 0 R).bind fun e ts4 => .ok (.st 2 0 [] nmA e .nil .nil .nil) ts4 := by
  rw [q_stmt _ _ (.inl rfl), q_post, q_postExpr, q_primary_word _ _ (.inl rfl)]
  show ((Res.ok nmA (tokE :: R)).bind fun e ts2 => parseF (n + 1) (.postLoop e _) 0 ts2).bind _ = _
  show (parseF (n + 1) (.postLoop nmA _) 0 (tokE :: R)).bind _ = _
  rw [q_postLoop _ _ _ _ (.inl rfl)]
  rfl
theorem round_first (n : Nat) (R : List Tok) : parseF (n + 6) .stmts 0 (tokA :: tokE :: R) = (parseF (n + 2) (.operation 1) 0 R).bind fun e ts4 => parseF (n + 4) (.stmtsLoop [.st 2 0 [] nmA e .nil .nil .nil]) 0 ts4 := by
  have he : endsT (tokA :: tokE :: R) = false := rfl
  rw [q_stmts, q_loop, he, if_neg (by decide), stmt_set]
  cases parseF (n + 2) (.operation 1) 0 R with
  | out => rfl
  | bad c l => rfl
  | ok e ts => rfl
theorem res_ok {r : Res} {f : Tree → List Tok → Res} {x : Tree} {ts : List Tok} (h : r.bind f = .ok x ts) : ∃ y us, r = .ok y us ∧ f y us = .ok x ts := by
  cases r with
  | out => cases h
  | bad c l => cases h
  | ok y us => exact ⟨y, us, rfl, h⟩
/-- At a parenthesis that closes no statement begins. -/
theorem no_close (n : Nat) (acc : List Tree) {ts : List Tok} (h : sgnT ts = [41]) (hk : (hdT ts).kind = 4) : NoOk (parseF (n + 5) (.stmtsLoop acc) 0 ts) := by
  have he : endsT ts = false := by unfold endsT; rw [h, hk]; decide
  rw [q_loop, he, if_neg (by decide), q_stmt _ _ (.inr h), q_post, q_postExpr, q_primary_word _ _ (.inr h)]
  have hw : NoOk (wordT ts) := by
    unfold wordT
    rw [hk, h, if_neg (by decide), if_neg (by decide), if_neg (by decide), if_pos (by decide)]
    intro t us e; cases e
  exact hw.bind.bind.bind
theorem sgn_kind {ts : List Tok} {s : List UInt8} (h : sgnT ts = s) (hs : s ≠ []) : (hdT ts).kind = 4 := by
  unfold sgnT at h
  split at h
  · assumption
  · exact absurd h.symm hs
theorem short_end {X us : List Tok} {l : Nat} (h : us <:+ X ++ tailA l) (hl : us.length < 2) : endsT us = true := by
  have h2 : us <:+ tailA l := List.suffix_of_suffix_length_le h (List.suffix_append _ _) (by simp only [tailA, List.length_cons, List.length_nil]; omega)
  match us, hl, h2 with
  | [], _, _ => rfl
  | [t], _, h2 =>
    obtain ⟨p, hp⟩ := h2
    have := congrArg List.getLast? hp
    simp [tailA] at this
    subst this
    rfl
/-- The statements of both. -/
theorem round_parse (n l : Nat) (X : List Tok) {x y : Tree} {ts us : List Tok} (hq : parseF (n + 1) (.operation 1) 0 (X ++ tailA l) ≠ .out)
    (h1 : parseF (n + 10) .stmts 0 (tokA :: tokE :: (X ++ tailA l)) = .ok x ts) (h2 : parseF (n + 10) .stmts 0 (tokA :: tokE :: tokO :: (X ++ tailB l)) = .ok y us) (hl : lenT x = 2) :
    ∃ e, x = .cons (.st 2 0 [] nmA e .nil .nil .nil) (.cons (.st 8 (l + 1 : Nat) [] .nil .nil .nil .nil .nil) .nil) ∧ y = .cons (.st 2 0 [] nmA e .nil .nil .nil) (.cons (.st 8 (l + 2 : Nat) [] .nil .nil .nil .nil .nil) .nil) := by
  rw [round_first (n + 4)] at h1 h2
  obtain ⟨e1, us1, p1, h1⟩ := res_ok h1
  obtain ⟨e2, us2, p2, h2⟩ := res_ok h2
  have M := mon_all (n + 1) (n + 6) (.operation 1) 0 (X ++ tailA l) (by omega) hq
  rw [p1] at M
  have S := sim_all (tails l) (n + 1) (.operation 1) 0 1 X e1 us1 M.symm
  rw [q_operation, q_operand _ _ rfl, q_postExpr, q_primary_open _ _ rfl, q_enclosed] at p2
  obtain ⟨a1, v1, r1, p2⟩ := res_ok p2
  obtain ⟨a2, v2, r2, r1⟩ := res_ok r1
  obtain ⟨a3, v3, r3, r2⟩ := res_ok r2
  obtain ⟨a4, v4, r4, s3⟩ := res_ok r3
  obtain ⟨a5, v5, r5, t3⟩ := res_ok s3
  obtain ⟨a6, v6, r6, u3⟩ := res_ok t3
  have e4 : v4 = X ++ tailB l := by
    have : beginT [40] 0 (tokO :: (X ++ tailB l)) = .ok .nil (X ++ tailB l) := rfl
    rw [this] at r4
    injection r4 with _ r4
    exact r4.symm
  subst e4
  have u3 : Res.ok a5 v6 = .ok a3 v3 := u3
  injection u3 with g1 g2
  subst g1; subst g2
  rcases S with S | ⟨Y, rfl, S⟩
  · have he := short_end ((suf_all (n + 6) (.operation 1) 0 _ _ (List.suffix_refl _)) _ _ p1) S
    rw [q_loop, if_pos he] at h1
    injection h1 with h1 _
    rw [← h1] at hl
    simp [treeL, lenT] at hl
  · obtain ⟨rfl, rfl⟩ := S _ _ r5
    cases Y with
    | cons y0 Y =>
      exfalso
      have hs : sgnT (y0 :: (Y ++ tailA l)) = [41] := by
        unfold wantT at r6
        split at r6
        · rename_i h; exact h
        · cases r6
      exact no_close (n + 3) _ hs (sgn_kind hs (by decide)) _ _ h1
    | nil =>
      have e6 : v6 = [⟨4, retW, 0, l + 2⟩, ⟨5, [], 0, l + 2⟩] := by
        have : wantT [41] (tailB l) = .ok .nil [⟨4, retW, 0, l + 2⟩, ⟨5, [], 0, l + 2⟩] := rfl
        rw [List.nil_append, this] at r6
        injection r6 with _ r6
        exact r6.symm
      subst e6
      have r2 := (q_postLoop _ _ _ _ (.inr rfl)).symm.trans r2
      injection r2 with k1 k2
      subst k1; subst k2
      have r1 : Res.ok (Tree.snd (.cons (flagT true) a5)) _ = .ok a1 v1 := r1
      injection r1 with k3 k4
      subst k3; subst k4
      have p2 := (q_opLoop _ _ _ rfl).symm.trans p2
      injection p2 with k5 k6
      subst k5; subst k6
      rw [List.nil_append] at h1
      have h1' := (q_ret (n + 5) (l + 1) _).symm.trans h1
      have h2' := (q_ret (n + 5) (l + 2) _).symm.trans h2
      injection h1' with w1 _
      injection h2' with w2 _
      exact ⟨_, w1.symm, w2.symm⟩
theorem print_line (n : Nat) (s1 : Tree) (l l' : Int) (s : List UInt8) (k : Nat) : printF n (.stmts (.cons s1 (.cons (.st 8 l [] .nil .nil .nil .nil .nil) .nil))) s k = printF n (.stmts (.cons s1 (.cons (.st 8 l' [] .nil .nil .nil .nil .nil) .nil))) s k := by
  cases n with
  | zero => rfl
  | succ n =>
    have h : ∀ i, printF n (.stmt (getT (.cons s1 (.cons (.st 8 l [] .nil .nil .nil .nil .nil) .nil)) i)) = printF n (.stmt (getT (.cons s1 (.cons (.st 8 l' [] .nil .nil .nil .nil .nil) .nil)) i)) := by
      intro i
      match i with
      | 0 => rfl
      | 1 => cases n <;> rfl
      | i + 2 => rfl
    simp only [printF, lenT, h]
theorem tokF_count6 : ∀ (f : Nat) (t : List UInt8) (l : Nat), (tokF f t l).toks.length ≤ t.length + 1 := by
  intro f
  induction f with
  | zero => intro t l; cases t <;> simp [tokF]
  | succ f ih =>
    intro t l
    match t with
    | [] => simp [tokF]
    | c :: r =>
      rw [tokF]
      by_cases h0 : kindL (c :: r) = 0
      · rw [if_pos h0]
        have h := ih ((c :: r).drop (blanksL (c :: r)).length) (l + (blanksL (c :: r)).count 10)
        rw [List.length_drop] at h
        omega
      · rw [if_neg h0]
        by_cases he : (wordL (c :: r)).err = 0
        · rw [if_pos he]
          have hp := (word_pos (by simp) h0 he)
          have h := ih ((c :: r).drop (wordL (c :: r)).size) l
          rw [List.length_drop] at h
          unfold pushL
          split
          · simp only [List.length_cons] at *; omega
          · omega
        · rw [if_neg he]; simp
theorem lex_count6 (t : List UInt8) : (lexL t).toks.length ≤ t.length + 1 := by
  unfold lexL
  split
  · simp
  · exact tokF_count6 _ _ _
theorem source_ok {t : List UInt8} {x : Tree} {ts : List Tok} (h : readF t = .ok x ts) : (lexL t).err = 0 ∧ parseF 1100000 .stmts 0 (lexL t).toks = .ok x ts := by
  unfold readF P5.sourceF at h
  split at h
  · rename_i he
    refine ⟨he, ?_⟩
    obtain ⟨y, us, h1, h2⟩ := res_ok h
    split at h2
    · injection h2 with h3 h4; rw [← h3, ← h4]; exact h1
    · cases h2
  · cases h
theorem read_parts {t : List UInt8} {x : Tree} {ts : List Tok} (h : readF t = .ok x ts) (ht : t.length ≤ 20000) : sizeT x ≤ 65536 := by
  obtain ⟨he, hp⟩ := source_ok h
  have h1 := sz_parse 1100000 .stmts 0 _ _ _ hp
  have h2 := lex_count6 t
  simp only [cG, eG] at h1
  omega
def srcA (T : List UInt8) : List UInt8 := 97 :: 32 :: 61 :: 32 :: (T ++ 10 :: retW)
def srcB (T : List UInt8) : List UInt8 := 97 :: 32 :: 61 :: 32 :: 40 :: (T ++ 10 :: 41 :: 10 :: retW)
/-- Alike, with the same text. -/
theorem round_all (T : List UInt8) (hT : T.length ≤ 1000) {x y : Tree} {ts us : List Tok} (h1 : readF (srcA T) = .ok x ts) (h2 : readF (srcB T) = .ok y us) (hl : lenT x = 2) :
    eqT x y = true ∧ sizeT x ≤ 65536 ∧ textF x = textF y ∧ ∀ z, eqT z x = eqT z y := by
  have hsz := read_parts h1 (by simp [srcA, retW]; omega)
  obtain ⟨e1, p1⟩ := source_ok h1
  obtain ⟨e2, p2⟩ := source_ok h2
  obtain ⟨X, l, t1, _, t2⟩ := round_lex T hT e1
  have TK := lex_toks e1
  change Tks 32769 (lexL (97 :: 32 :: 61 :: 32 :: (T ++ 10 :: retW))).toks at TK
  change parseF 1100000 .stmts 0 (lexL (97 :: 32 :: 61 :: 32 :: (T ++ 10 :: retW))).toks = _ at p1
  change parseF 1100000 .stmts 0 (lexL (97 :: 32 :: 61 :: 32 :: 40 :: (T ++ 10 :: 41 :: 10 :: retW))).toks = _ at p2
  rw [t1] at TK p1
  rw [t2] at p2
  have TX : Tks 32769 (X ++ tailA l) := ⟨by have := TK.1; simp only [List.length_cons] at this; omega, fun t ht => TK.2 t (List.mem_cons_of_mem _ (List.mem_cons_of_mem _ ht))⟩
  have hq := (pall 1099991 (.operation 1) 0 _ _ TX (by omega) (by simp only [rankG]; omega) (show 1 ≤ 1 from Nat.le_refl _)).fin
  obtain ⟨e, rfl, rfl⟩ := round_parse 1099990 l X hq p1 p2 hl
  refine ⟨?_, hsz, ?_, fun z => ?_⟩
  · simp only [eqT, eqT_refl]; rfl
  · unfold textF
    exact print_line _ _ _ _ _ _
  · cases z with
    | cons a b => cases b with
      | cons b c =>
        simp only [eqT]
        cases b <;> rfl
      | _ => rfl
    | _ => rfl
end Go.Proofs.YtoggkigfijgbfaaGreatDoor.P6
