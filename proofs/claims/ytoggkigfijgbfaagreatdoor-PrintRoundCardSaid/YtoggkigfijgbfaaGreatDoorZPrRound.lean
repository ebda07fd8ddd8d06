/- Two sources that go on otherwise behind the same words: the parser goes on alike. No walk, no program. -/
import Derived.Test.YtoggkigfijgbfaaGreatDoorZB
namespace Go.Proofs.YtoggkigfijgbfaaGreatDoor.P6
set_option maxRecDepth 20000

/-- No more tokens are left than there were. -/
def LE (r : Res) (m : Nat) : Prop := ∀ t us, r = .ok t us → us.length ≤ m
theorem LE.out {m : Nat} : LE .out m := fun _ _ h => by cases h
theorem LE.bad {c : Int} {l m : Nat} : LE (.bad c l) m := fun _ _ h => by cases h
theorem LE.ok {x : Tree} {u : List Tok} {m : Nat} (h : u.length ≤ m) : LE (.ok x u) m := fun _ _ e => by injection e with _ e2; subst e2; exact h
theorem LE.bind {r : Res} {f : Tree → List Tok → Res} {m : Nat} (h : LE r m) (hf : ∀ x u, u.length ≤ m → LE (f x u) m) : LE (r.bind f) m := by
  cases r with
  | out => exact LE.out
  | bad c l => exact LE.bad
  | ok x u => exact hf x u (h x u rfl)
theorem LE.mono {r : Res} {m m' : Nat} (h : LE r m) (hm : m ≤ m') : LE r m' := fun t us e => Nat.le_trans (h t us e) hm
theorem tail_le (ts : List Tok) : ts.tail.length ≤ ts.length := by simp
theorem LE.want {s : List UInt8} {ts : List Tok} {m : Nat} (h : ts.length ≤ m) : LE (wantT s ts) m := by
  unfold wantT; split
  · exact LE.ok (Nat.le_trans (tail_le ts) h)
  · exact LE.bad
theorem LE.begin {s : List UInt8} {d : Nat} {ts : List Tok} {m : Nat} (h : ts.length ≤ m) : LE (beginT s d ts) m := by
  unfold beginT; split
  · exact LE.bad
  · exact LE.want h
theorem LE.name {ts : List Tok} {m : Nat} (h : ts.length ≤ m) : LE (nameT ts) m := by
  unfold nameT; split
  · exact LE.ok (Nat.le_trans (tail_le ts) h)
  · exact LE.bad
theorem LE.named {k : Int} {ts : List Tok} {m : Nat} (h : ts.length ≤ m) : LE (namedT k ts) m := by
  unfold namedT
  exact (LE.name h).bind fun _ _ h => LE.ok h
theorem LE.word {ts : List Tok} {m : Nat} (h : ts.length ≤ m) : LE (wordT ts) m := by
  unfold wordT
  have h2 := Nat.le_trans (tail_le ts) h
  repeat' split
  all_goals first | exact LE.ok h2 | exact LE.bad
theorem le_all : ∀ (n : Nat) (g : Goal) (d : Nat) (ts : List Tok) (m : Nat), ts.length ≤ m → LE (parseF n g d ts) m
  | 0, _, _, _, _, _ => LE.out
  | n + 1, g, d, ts, m, h => by
    have ih := le_all n
    have h2 := Nat.le_trans (tail_le ts) h
    cases g <;> simp only [parseF]
    all_goals
      repeat' (first
        | exact LE.bad
        | (refine LE.ok ?_; assumption)
        | (refine LE.want ?_; assumption)
        | (refine LE.begin ?_; assumption)
        | (refine LE.name ?_; assumption)
        | (refine LE.named ?_; assumption)
        | (refine LE.word ?_; assumption)
        | (refine ih _ _ _ _ ?_; first | assumption | exact Nat.le_trans (tail_le _) (by assumption))
        | (refine LE.bind ?_ (fun x u hu => ?_))
        | split)
/-- What stands behind, here and there: 'return' and the end; a parenthesis and whatever. -/
structure Tails (r1 r2 : List Tok) : Prop where
  len : r1.length = 2
  s1 : sgnT r1 = [114, 101, 116, 117, 114, 110]
  k1 : (hdT r1).kind = 4
  e1 : endsT r1.tail = true
  s2 : sgnT r2 = [41]
  k2 : (hdT r2).kind = 4
/-- Where the one goes on with what stands behind it, the other, if it goes on, does too, with the same tree. -/
def Sim (r1 r2 : List Tok) (r r' : Res) : Prop := ∀ t us, r = .ok t us → us.length < 2 ∨ ∃ Y, us = Y ++ r1 ∧ ∀ u vs, r' = .ok u vs → u = t ∧ vs = Y ++ r2
section
variable {r1 r2 : List Tok}
theorem Sim.out {r' : Res} : Sim r1 r2 .out r' := fun _ _ h => by cases h
theorem Sim.bad {c : Int} {l : Nat} {r' : Res} : Sim r1 r2 (.bad c l) r' := fun _ _ h => by cases h
theorem Sim.bad2 {c : Int} {l : Nat} {x : Tree} {Y : List Tok} : Sim r1 r2 (.ok x (Y ++ r1)) (.bad c l) := fun _ _ e => by
  injection e with e1 e2; subst e1; subst e2
  exact .inr ⟨Y, rfl, fun _ _ h => by cases h⟩
theorem Sim.ok {x : Tree} {Y : List Tok} : Sim r1 r2 (.ok x (Y ++ r1)) (.ok x (Y ++ r2)) := fun _ _ e => by
  injection e with e1 e2; subst e1; subst e2
  exact .inr ⟨Y, rfl, fun _ _ h => by injection h with h1 h2; exact ⟨h1.symm, h2.symm⟩⟩
theorem Sim.ok0 {x : Tree} : Sim r1 r2 (.ok x r1) (.ok x r2) := Sim.ok (Y := [])
theorem Sim.lost {r r' : Res} (h : LE r 1) : Sim r1 r2 r r' := fun t us e => .inl (by have := h t us e; omega)
theorem Sim.bind {r r' : Res} {f f' : Tree → List Tok → Res} (h : Sim r1 r2 r r') (hf : ∀ x Y, Sim r1 r2 (f x (Y ++ r1)) (f' x (Y ++ r2))) (hl : ∀ x u, u.length ≤ 1 → LE (f x u) 1) : Sim r1 r2 (r.bind f) (r'.bind f') := by
  intro t us e
  cases r with
  | out => cases e
  | bad c l => cases e
  | ok x w =>
    have e' : f x w = .ok t us := e
    rcases h x w rfl with h1 | ⟨Y, rfl, h2⟩
    · have := hl x w (by omega) t us e'
      exact .inl (by omega)
    · rcases hf x Y t us e' with h3 | ⟨Y', e3, h3⟩
      · exact .inl h3
      · refine .inr ⟨Y', e3, fun u vs e4 => ?_⟩
        cases r' with
        | out => cases e4
        | bad c l => cases e4
        | ok x' w' =>
          obtain ⟨rfl, rfl⟩ := h2 x' w' rfl
          exact h3 u vs e4
theorem Sim.ite {c c' : Prop} [Decidable c] [Decidable c'] {a b a' b' : Res} (hc : c ↔ c') (h1 : c → Sim r1 r2 a a') (h2 : ¬ c → Sim r1 r2 b b') : Sim r1 r2 (if c then a else b) (if c' then a' else b') := by
  by_cases h : c
  · rw [if_pos h, if_pos (hc.1 h)]; exact h1 h
  · rw [if_neg h, if_neg (fun h' => h (hc.2 h'))]; exact h2 h
theorem Sim.ite1 {c : Prop} [Decidable c] {a b r' : Res} (h1 : c → Sim r1 r2 a r') (h2 : ¬ c → Sim r1 r2 b r') : Sim r1 r2 (if c then a else b) r' := by
  by_cases h : c
  · rw [if_pos h]; exact h1 h
  · rw [if_neg h]; exact h2 h
theorem Tails.tail (T : Tails r1 r2) : r1.tail.length ≤ 1 := by have := T.len; rw [List.length_tail]; omega
theorem sgn_c (x : Tok) (l : List Tok) : sgnT (x :: l) = if x.kind = 4 then x.text else [] := rfl
theorem hd_c (x : Tok) (l : List Tok) : hdT (x :: l) = x := rfl
theorem lin_c (x : Tok) (l : List Tok) : linT (x :: l) = x.line := rfl
theorem tail_c (x : Tok) (l : List Tok) : (x :: l).tail = l := rfl
theorem second_c (x : Tok) (l : List Tok) : secondT (x :: l) = hdT l := rfl
theorem Sim.want (T : Tails r1 r2) (s : List UInt8) (Y : List Tok) : Sim r1 r2 (wantT s (Y ++ r1)) (wantT s (Y ++ r2)) := by
  cases Y with
  | nil =>
    unfold wantT
    refine Sim.ite1 (fun _ => Sim.lost (LE.ok T.tail)) (fun _ => Sim.bad)
  | cons x X =>
    unfold wantT
    simp only [List.cons_append, sgn_c, tail_c]
    exact Sim.ite Iff.rfl (fun _ => Sim.ok) (fun _ => Sim.bad)
theorem Sim.begin (T : Tails r1 r2) (s : List UInt8) (d d' : Nat) (Y : List Tok) : Sim r1 r2 (beginT s d (Y ++ r1)) (beginT s d' (Y ++ r2)) := by
  intro t us e
  unfold beginT at e
  split at e
  · cases e
  · rcases Sim.want T s Y t us e with h | ⟨Y', e1, h⟩
    · exact .inl h
    · refine .inr ⟨Y', e1, fun u vs e2 => ?_⟩
      unfold beginT at e2
      split at e2
      · cases e2
      · exact h u vs e2
theorem Sim.name (T : Tails r1 r2) (Y : List Tok) : Sim r1 r2 (nameT (Y ++ r1)) (nameT (Y ++ r2)) := by
  cases Y with
  | nil =>
    unfold nameT
    refine Sim.ite1 (fun h => absurd h (by rw [List.nil_append, T.k1]; decide)) (fun _ => Sim.bad)
  | cons x X =>
    unfold nameT
    simp only [List.cons_append, hd_c, tail_c]
    exact Sim.ite Iff.rfl (fun _ => Sim.ok) (fun _ => Sim.bad)
theorem Sim.named (T : Tails r1 r2) (k : Int) (Y : List Tok) : Sim r1 r2 (namedT k (Y ++ r1)) (namedT k (Y ++ r2)) := by
  cases Y with
  | nil =>
    unfold namedT nameT
    rw [List.nil_append, if_neg (by rw [T.k1]; decide)]
    exact Sim.bad
  | cons x X =>
    unfold namedT
    simp only [List.cons_append, lin_c]
    exact (Sim.name T (x :: X)).bind (fun _ _ => Sim.ok) (fun _ _ h => LE.ok h)
theorem Sim.word (T : Tails r1 r2) (Y : List Tok) : Sim r1 r2 (wordT (Y ++ r1)) (wordT (Y ++ r2)) := by
  cases Y with
  | nil =>
    unfold wordT
    rw [List.nil_append, if_neg (by rw [T.k1]; decide), if_neg (by rw [T.k1]; decide), if_neg (by rw [T.k1]; decide), if_pos (by rw [T.s1]; decide)]
    exact Sim.bad
  | cons x X =>
    unfold wordT
    simp only [List.cons_append, hd_c, lin_c, sgn_c, tail_c]
    exact Sim.ite Iff.rfl (fun _ => Sim.ok) fun _ => Sim.ite Iff.rfl (fun _ => Sim.ok) fun _ => Sim.ite Iff.rfl (fun _ => Sim.ok) fun _ => Sim.ite Iff.rfl (fun _ => Sim.bad) fun _ => Sim.ok
theorem sg (T : Tails r1 r2) (Y : List Tok) (s : List UInt8) (h1 : s ≠ [114, 101, 116, 117, 114, 110]) (h2 : s ≠ [41]) : sgnT (Y ++ r1) = s ↔ sgnT (Y ++ r2) = s := by
  cases Y with
  | nil =>
    rw [List.nil_append, List.nil_append, T.s1, T.s2]
    exact ⟨fun h => absurd h.symm h1, fun h => absurd h.symm h2⟩
  | cons x X => exact Iff.rfl
theorem ends_eq (T : Tails r1 r2) (Y : List Tok) : endsT (Y ++ r1) = endsT (Y ++ r2) := by
  cases Y with
  | nil =>
    unfold endsT
    rw [List.nil_append, List.nil_append, T.s1, T.s2, T.k1, T.k2]
    decide
  | cons x X => rfl
end
/-- What can't begin at 'return' ends badly there. -/
theorem never_word {r1 r2 : List Tok} (T : Tails r1 r2) : ∀ t us, wordT r1 ≠ .ok t us := by
  intro t us h
  unfold wordT at h
  rw [if_neg (by rw [T.k1]; decide), if_neg (by rw [T.k1]; decide), if_neg (by rw [T.k1]; decide), if_pos (by rw [T.s1]; decide)] at h
  cases h
def NoOk (r : Res) : Prop := ∀ t us, r ≠ .ok t us
theorem NoOk.bind {r : Res} {f : Tree → List Tok → Res} (h : NoOk r) : NoOk (r.bind f) := by
  cases r with
  | out => intro t us e; cases e
  | bad c l => intro t us e; cases e
  | ok x u => exact absurd rfl (h x u)
theorem NoOk.sim {r1 r2 : List Tok} {r r' : Res} (h : NoOk r) : Sim r1 r2 r r' := fun t us e => absurd e (h t us)
theorem no_primary {r1 r2 : List Tok} (T : Tails r1 r2) (n d : Nat) : NoOk (parseF n .primary d r1) := by
  cases n with
  | zero => intro t us e; cases e
  | succ n =>
    simp only [parseF, T.s1]
    exact never_word T
theorem no_post {r1 r2 : List Tok} (T : Tails r1 r2) (n d : Nat) : NoOk (parseF n .postExpr d r1) := by
  cases n with
  | zero => intro t us e; cases e
  | succ n => simp only [parseF]; exact (no_primary T n d).bind
theorem no_operand {r1 r2 : List Tok} (T : Tails r1 r2) (n d : Nat) : NoOk (parseF n .operand d r1) := by
  cases n with
  | zero => intro t us e; cases e
  | succ n =>
    simp only [parseF, T.s1]
    exact (no_post T n d).bind
theorem no_operation {r1 r2 : List Tok} (T : Tails r1 r2) (n d l : Nat) : NoOk (parseF n (.operation l) d r1) := by
  cases n with
  | zero => intro t us e; cases e
  | succ n => simp only [parseF]; exact (no_operand T n d).bind
theorem no_item {r1 r2 : List Tok} (T : Tails r1 r2) (n d : Nat) : NoOk (parseF n .item d r1) := by
  cases n with
  | zero => intro t us e; cases e
  | succ n =>
    simp only [parseF, T.s1, T.k1]
    exact (no_operation T n d 1).bind
theorem no_one {r1 r2 : List Tok} (T : Tails r1 r2) (n d k : Nat) : NoOk (parseF n (.one k) d r1) := by
  cases n with
  | zero => intro t us e; cases e
  | succ n =>
    simp only [parseF]
    split
    · exact no_operation T n d 1
    · split
      · intro t us e
        unfold nameT at e
        rw [if_neg (by rw [T.k1]; decide)] at e
        cases e
      · exact no_item T n d
theorem second_eq {r1 r2 : List Tok} (T : Tails r1 r2) (x : Tok) (X : List Tok) : ((hdT (x :: (X ++ r1))).kind = 1 ∧ (secondT (x :: (X ++ r1))).kind = 4 ∧ (secondT (x :: (X ++ r1))).text = [61]) ↔ ((hdT (x :: (X ++ r2))).kind = 1 ∧ (secondT (x :: (X ++ r2))).kind = 4 ∧ (secondT (x :: (X ++ r2))).text = [61]) := by
  cases X with
  | nil =>
    simp only [List.nil_append, second_c, hd_c]
    have h1 : sgnT r1 = (hdT r1).text := by unfold sgnT; rw [if_pos T.k1]
    have h2 : sgnT r2 = (hdT r2).text := by unfold sgnT; rw [if_pos T.k2]
    rw [← h1, ← h2, T.s1, T.s2]
    simp
  | cons y Y => exact Iff.rfl
theorem second_name {r1 r2 : List Tok} (T : Tails r1 r2) (x : Tok) (X : List Tok) (p : Prop) : (p ∧ (secondT (x :: (X ++ r1))).kind = 1) ↔ (p ∧ (secondT (x :: (X ++ r2))).kind = 1) := by
  cases X with
  | nil =>
    simp only [List.nil_append, second_c, T.k1, T.k2]
  | cons y Y => exact Iff.rfl
theorem no_begin {r1 r2 : List Tok} (T : Tails r1 r2) {s : List UInt8} (d : Nat) (h : s ≠ [114, 101, 116, 117, 114, 110]) : NoOk (beginT s d r1) := by
  intro t us e
  unfold beginT wantT at e
  rw [T.s1] at e
  split at e
  · cases e
  · rw [if_neg (fun h2 => h h2.symm)] at e; cases e
theorem no_list {r1 r2 : List Tok} (T : Tails r1 r2) {s l : List UInt8} (n d k : Nat) (h : s ≠ [114, 101, 116, 117, 114, 110]) : NoOk (parseF n (.list s l k) d r1) := by
  cases n with
  | zero => intro t us e; cases e
  | succ n => simp only [parseF]; exact (no_begin T d h).bind
theorem no_table {r1 r2 : List Tok} (T : Tails r1 r2) (n d : Nat) : NoOk (parseF n .table d r1) := by
  cases n with
  | zero => intro t us e; cases e
  | succ n => simp only [parseF]; exact (no_list T n d 2 (by decide)).bind
theorem no_function {r1 r2 : List Tok} (T : Tails r1 r2) (n d : Nat) : NoOk (parseF n .function d r1) := by
  cases n with
  | zero => intro t us e; cases e
  | succ n => simp only [parseF]; exact (no_begin T d (by decide)).bind
theorem no_named {r1 r2 : List Tok} (T : Tails r1 r2) (n d : Nat) : NoOk (parseF n .namedFunction d r1) := by
  cases n with
  | zero => intro t us e; cases e
  | succ n => simp only [parseF]; exact (no_begin T d (by decide)).bind
theorem lost_want {r1 r2 : List Tok} (T : Tails r1 r2) (s : List UInt8) : LE (wantT s r1) 1 := by
  unfold wantT
  split
  · exact LE.ok T.tail
  · exact LE.bad
theorem lost_behind {r1 r2 : List Tok} (T : Tails r1 r2) (l : Tree) (n d : Nat) : LE (parseF n (.behind l) d r1) 1 := by
  cases n with
  | zero => exact LE.out
  | succ n =>
    simp only [parseF, T.s1]
    refine LE.bind (lost_want T _) (fun x u hu => LE.bind (le_all _ _ _ _ _ hu) (fun x u hu => LE.ok hu))
theorem lost_result {r1 r2 : List Tok} (T : Tails r1 r2) (l n d : Nat) : LE (parseF n (.result l) d r1) 1 := by
  cases n with
  | zero => exact LE.out
  | succ n =>
    simp only [parseF]
    refine LE.bind (lost_want T _) (fun x u hu => ?_)
    split
    · exact LE.ok hu
    · exact LE.bind (le_all _ _ _ _ _ hu) (fun x u hu => LE.ok hu)
theorem lost_stmt {r1 r2 : List Tok} (T : Tails r1 r2) (n d : Nat) : LE (parseF n .stmt d r1) 1 := by
  cases n with
  | zero => exact LE.out
  | succ n =>
    simp only [parseF, T.s1]
    exact lost_result T _ n d
theorem Sim.okc {r1 r2 : List Tok} {t : Tree} {x : Tok} {X : List Tok} : Sim r1 r2 (.ok t (x :: (X ++ r1))) (.ok t (x :: (X ++ r2))) := Sim.ok (Y := x :: X)
theorem sim_list {r1 r2 : List Tok} (T : Tails r1 r2) {n d d' k : Nat} {last : List UInt8} (Y : List Tok) (ih : ∀ (g : Goal) (d d' : Nat) (Y : List Tok), Sim r1 r2 (parseF n g d (Y ++ r1)) (parseF n g d' (Y ++ r2))) :
    Sim r1 r2 (if sgnT (Y ++ r1) = last then (wantT last (Y ++ r1)).bind fun _ ts3 => Res.ok Tree.nil ts3 else (parseF n (Goal.one k) (d + 1) (Y ++ r1)).bind fun x ts3 => parseF n (Goal.listLoop last k [x]) (d + 1) ts3)
      (if sgnT (Y ++ r2) = last then (wantT last (Y ++ r2)).bind fun _ ts3 => Res.ok Tree.nil ts3 else (parseF n (Goal.one k) (d' + 1) (Y ++ r2)).bind fun x ts3 => parseF n (Goal.listLoop last k [x]) (d' + 1) ts3) := by
  cases Y with
  | nil =>
    rw [List.nil_append]
    exact Sim.ite1 (fun _ => Sim.lost (LE.bind (lost_want T _) (fun x u hu => LE.ok hu))) (fun _ => (no_one T n (d + 1) k).bind.sim)
  | cons x X =>
    exact Sim.ite Iff.rfl (fun _ => (Sim.want T _ (x :: X)).bind (fun _ _ => Sim.ok) (fun _ _ h => LE.ok h)) (fun _ => (ih _ _ _ (x :: X)).bind (fun _ _ => ih _ _ _ _) (fun _ _ h => le_all _ _ _ _ _ h))
set_option maxHeartbeats 4000000 in
theorem sim_all {r1 r2 : List Tok} (T : Tails r1 r2) : ∀ (n : Nat) (g : Goal) (d d' : Nat) (Y : List Tok), Sim r1 r2 (parseF n g d (Y ++ r1)) (parseF n g d' (Y ++ r2))
  | 0, _, _, _, _ => Sim.out
  | n + 1, g, d, d', Y => by
    have ih := sim_all T n
    have lih := le_all n
    have lt1 := T.tail
    cases g
    all_goals cases Y with
    | nil => ?_
    | cons x X => ?_
    all_goals try first
      | exact (no_item T (n + 1) d).sim
      | exact Sim.lost (lost_stmt T (n + 1) d)
      | exact Sim.lost (lost_behind T _ (n + 1) d)
      | exact (no_function T (n + 1) d).sim
      | exact (no_named T (n + 1) d).sim
      | exact (no_table T (n + 1) d).sim
    all_goals simp only [parseF, List.nil_append, List.cons_append, T.s1, T.s2, lin_c, hd_c, tail_c]
    all_goals
      repeat' (first
        | exact Sim.bad
        | exact Sim.ok
        | exact Sim.ok0
        | exact Sim.okc
        | exact sim_list T _ ih
        | exact Sim.bad2
        | exact Sim.want T _ _
        | exact Sim.want T _ []
        | exact Sim.want T _ (x :: X)
        | exact Sim.begin T _ _ _ _
        | exact Sim.begin T _ _ _ []
        | exact Sim.begin T _ _ _ (x :: X)
        | exact Sim.name T _
        | exact Sim.name T []
        | exact Sim.name T (x :: X)
        | exact Sim.named T _ _
        | exact Sim.named T _ []
        | exact Sim.named T _ (x :: X)
        | exact Sim.word T _
        | exact Sim.word T []
        | exact Sim.word T (x :: X)
        | exact ih _ _ _ _
        | exact ih _ _ _ []
        | exact ih _ _ _ (x :: X)
        | (refine Sim.bind ?_ (fun y Y => ?_) (fun y u hu => ?_))
        | exact LE.bad
        | (refine LE.ok ?_; assumption)
        | (refine LE.want ?_; assumption)
        | (refine LE.begin ?_; assumption)
        | (refine LE.name ?_; assumption)
        | (refine LE.named ?_; assumption)
        | (refine LE.word ?_; assumption)
        | (refine lih _ _ _ _ ?_; first | assumption | exact Nat.le_trans (tail_le _) (by assumption))
        | (refine LE.bind ?_ (fun x u hu => ?_))
        | (refine Sim.ite (by first | exact Iff.rfl | exact sg T _ _ (by decide) (by decide) | exact second_eq T _ _ | exact second_name T _ _ _ | exact iff_of_eq (congrArg (· = true) (ends_eq T _)) | exact iff_of_eq (congrArg (· = true) (ends_eq T []))) (fun hc => ?_) (fun hc => ?_))
        | (show LE _ _; split)
        | (cases Y with
           | nil => exact absurd hc (by rw [List.nil_append, T.s1]; decide)
           | cons z Z => first | exact ih _ _ _ Z | exact ih _ _ _ (z :: Z)))
end Go.Proofs.YtoggkigfijgbfaaGreatDoor.P6
