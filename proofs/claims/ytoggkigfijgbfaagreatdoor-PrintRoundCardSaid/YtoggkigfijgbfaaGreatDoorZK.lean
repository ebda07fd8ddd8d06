/- The parser: with more fuel it answers the same; what is left is an end of what was there. No walk, no program. | The words of two texts that are alike up to a line feed. No walk, no program. -/
import Derived.Test.YtoggkigfijgbfaaGreatDoorZB
import Derived.Test.YtoggkigfijgbfaaGreatDoorZOldRef
namespace Go.Proofs.YtoggkigfijgbfaaGreatDoor.P6
set_option maxRecDepth 20000

/-- With more fuel the same. -/
def Mon (r r' : Res) : Prop := r ≠ .out → r' = r
theorem Mon.rfl {r : Res} : Mon r r := fun _ => Eq.refl r
theorem Mon.out {r' : Res} : Mon .out r' := fun h => absurd (Eq.refl _) h
theorem Mon.bind {r r' : Res} {f f' : Tree → List Tok → Res} (h : Mon r r') (hf : ∀ x u, Mon (f x u) (f' x u)) : Mon (r.bind f) (r'.bind f') := by
  intro hn
  cases r with
  | out => exact absurd (Eq.refl _) hn
  | bad c l => rw [h (by intro h; cases h)]; exact Eq.refl _
  | ok x u => rw [h (by intro h; cases h)]; exact hf x u hn
theorem Mon.ite {c : Prop} [Decidable c] {a b a' b' : Res} (h1 : Mon a a') (h2 : Mon b b') : Mon (if c then a else b) (if c then a' else b') := by
  split
  · exact h1
  · exact h2
set_option maxHeartbeats 4000000 in
theorem mon_all : ∀ (n m : Nat) (g : Goal) (d : Nat) (ts : List Tok), n ≤ m → Mon (parseF n g d ts) (parseF m g d ts)
  | 0, _, _, _, _, _ => Mon.out
  | n + 1, 0, _, _, _, h => by omega
  | n + 1, m + 1, g, d, ts, h => by
    have ih := fun g d ts => mon_all n m g d ts (by omega)
    cases g <;> simp only [parseF]
    all_goals
      repeat' (first
        | exact Mon.rfl
        | exact ih _ _ _
        | (refine Mon.bind ?_ (fun x u => ?_))
        | (refine Mon.ite ?_ ?_))
/-- What is left is an end of what was there. -/
def Suf (r : Res) (ts : List Tok) : Prop := ∀ t us, r = .ok t us → us <:+ ts
theorem Suf.out {ts : List Tok} : Suf .out ts := fun _ _ h => by cases h
theorem Suf.bad {c : Int} {l : Nat} {ts : List Tok} : Suf (.bad c l) ts := fun _ _ h => by cases h
theorem Suf.ok {x : Tree} {u ts : List Tok} (h : u <:+ ts) : Suf (.ok x u) ts := fun _ _ e => by injection e with _ e2; subst e2; exact h
theorem Suf.bind {r : Res} {f : Tree → List Tok → Res} {ts : List Tok} (h : Suf r ts) (hf : ∀ x u, u <:+ ts → Suf (f x u) ts) : Suf (r.bind f) ts := by
  cases r with
  | out => exact Suf.out
  | bad c l => exact Suf.bad
  | ok x u => exact hf x u (h x u (Eq.refl _))
theorem Suf.want {s : List UInt8} {u ts : List Tok} (h : u <:+ ts) : Suf (wantT s u) ts := by
  unfold wantT; split
  · exact Suf.ok ((List.tail_suffix u).trans h)
  · exact Suf.bad
theorem Suf.begin {s : List UInt8} {d : Nat} {u ts : List Tok} (h : u <:+ ts) : Suf (beginT s d u) ts := by
  unfold beginT; split
  · exact Suf.bad
  · exact Suf.want h
theorem Suf.name {u ts : List Tok} (h : u <:+ ts) : Suf (nameT u) ts := by
  unfold nameT; split
  · exact Suf.ok ((List.tail_suffix u).trans h)
  · exact Suf.bad
theorem Suf.named {k : Int} {u ts : List Tok} (h : u <:+ ts) : Suf (namedT k u) ts := by
  unfold namedT
  exact (Suf.name h).bind fun _ _ h => Suf.ok h
theorem Suf.word {u ts : List Tok} (h : u <:+ ts) : Suf (wordT u) ts := by
  unfold wordT
  have h2 := (List.tail_suffix u).trans h
  repeat' split
  all_goals first | exact Suf.ok h2 | exact Suf.bad
set_option maxHeartbeats 4000000 in
theorem suf_all : ∀ (n : Nat) (g : Goal) (d : Nat) (u ts : List Tok), u <:+ ts → Suf (parseF n g d u) ts
  | 0, _, _, _, _, _ => Suf.out
  | n + 1, g, d, u, ts, h => by
    have ih := suf_all n
    cases g <;> simp only [parseF]
    all_goals
      repeat' (first
        | exact Suf.bad
        | (refine Suf.ok ?_; assumption)
        | (refine Suf.want ?_; assumption)
        | (refine Suf.begin ?_; assumption)
        | (refine Suf.name ?_; assumption)
        | (refine Suf.named ?_; first | assumption | exact (List.tail_suffix _).trans (by assumption))
        | (refine Suf.word ?_; assumption)
        | (refine Suf.ok ?_; exact (List.tail_suffix _).trans (by assumption))
        | (refine ih _ _ _ _ ?_; first | assumption | exact (List.tail_suffix _).trans (by assumption))
        | (refine Suf.bind ?_ (fun x u hu => ?_))
        | split)
end Go.Proofs.YtoggkigfijgbfaaGreatDoor.P6
namespace Go.Proofs.YtoggkigfijgbfaaGreatDoor.P6
set_option maxRecDepth 20000

theorem close_feed (v v' : List UInt8) : ∀ (r : List UInt8) (e : Bool), closeR e (r ++ 10 :: v) = closeR e (r ++ 10 :: v') ∧ ∀ n, closeR e (r ++ 10 :: v) = some n → n ≤ r.length
  | [], e => by
    have h : ∀ x, closeR e (10 :: x) = none := fun x => by unfold closeR; rw [if_pos rfl]
    rw [List.nil_append, List.nil_append, h, h]
    exact ⟨rfl, fun n hn => by cases hn⟩
  | c :: r, e => by
    have iht := close_feed v v' r true
    have ihf := close_feed v v' r false
    rw [List.cons_append, List.cons_append]
    unfold closeR
    by_cases h10 : c = 10
    · rw [if_pos h10, if_pos h10]; exact ⟨rfl, fun n hn => by cases hn⟩
    rw [if_neg h10, if_neg h10]
    have hm : ∀ {o : Option Nat} {n : Nat}, o.map (· + 1) = some n → (∀ k, o = some k → k ≤ r.length) → n ≤ (c :: r).length := by
      intro o n h hk
      obtain ⟨k, h1, h2⟩ := Option.map_eq_some_iff.1 h
      have := hk k h1
      rw [List.length_cons]; omega
    by_cases he : e = true
    · rw [if_pos he, if_pos he, ihf.1]
      exact ⟨rfl, fun n hn => hm hn (fun k hk => ihf.2 k (by rw [ihf.1]; exact hk))⟩
    rw [if_neg he, if_neg he]
    by_cases h92 : c = 92
    · rw [if_pos h92, if_pos h92, iht.1]
      exact ⟨rfl, fun n hn => hm hn (fun k hk => iht.2 k (by rw [iht.1]; exact hk))⟩
    rw [if_neg h92, if_neg h92]
    by_cases h34 : c = 34
    · rw [if_pos h34, if_pos h34]
      exact ⟨rfl, fun n hn => by injection hn with hn; subst hn; simp⟩
    rw [if_neg h34, if_neg h34, ihf.1]
    exact ⟨rfl, fun n hn => hm hn (fun k hk => ihf.2 k (by rw [ihf.1]; exact hk))⟩
theorem tw_feed {p : UInt8 → Bool} (hp : p 10 = false) (v : List UInt8) : ∀ u : List UInt8, (u ++ 10 :: v).takeWhile p = u.takeWhile p
  | [] => by rw [List.nil_append, List.takeWhile_cons, hp]; simp
  | c :: u => by
    rw [List.cons_append, List.takeWhile_cons, List.takeWhile_cons, tw_feed hp v u]
theorem kind_feed (v v' : List UInt8) (c : UInt8) (r : List UInt8) : kindL (c :: (r ++ 10 :: v)) = kindL (c :: (r ++ 10 :: v')) := by
  have h : Lib.hasPrefix (c :: (r ++ 10 :: v)) [45, 45] = Lib.hasPrefix (c :: (r ++ 10 :: v')) [45, 45] := by cases r <;> rfl
  unfold kindL
  simp only []
  rw [h]
theorem sign_feed (v v' : List UInt8) (c : UInt8) (r : List UInt8) : signL (c :: (r ++ 10 :: v)) = signL (c :: (r ++ 10 :: v')) := by
  have h : ∀ s ∈ signsL, Lib.hasPrefix (c :: (r ++ 10 :: v)) s = Lib.hasPrefix (c :: (r ++ 10 :: v')) s := by
    intro s hs
    unfold signsL at hs
    simp only [List.mem_cons, List.not_mem_nil, or_false] at hs
    cases r <;> (rcases hs with rfl | rfl | rfl | rfl | rfl | rfl | rfl | rfl | rfl | rfl | rfl | rfl | rfl | rfl | rfl | rfl | rfl | rfl | rfl | rfl | rfl | rfl | rfl | rfl | rfl | rfl | rfl <;> rfl)
  have g : ∀ l : List (List UInt8), (∀ s ∈ l, Lib.hasPrefix (c :: (r ++ 10 :: v)) s = Lib.hasPrefix (c :: (r ++ 10 :: v')) s) → l.find? (fun s => Lib.hasPrefix (c :: (r ++ 10 :: v)) s) = l.find? (fun s => Lib.hasPrefix (c :: (r ++ 10 :: v')) s) := by
    intro l
    induction l with
    | nil => intro _; rfl
    | cons s l ih =>
      intro hl
      rw [List.find?_cons, List.find?_cons, hl s (List.mem_cons_self ..), ih (fun s hs => hl s (List.mem_cons_of_mem _ hs))]
  unfold signL
  rw [g signsL h]
theorem sign_size (v : List UInt8) (c : UInt8) (r : List UInt8) : (signL (c :: (r ++ 10 :: v))).length ≤ (c :: r).length := by
  unfold signL
  cases hf : signsL.find? (fun s => Lib.hasPrefix (c :: (r ++ 10 :: v)) s) with
  | none => simp
  | some s =>
    have h1 := List.find?_some hf
    have h2 := List.mem_of_find?_eq_some hf
    have h3 : ∀ s ∈ signsL, s.length ≤ 2 ∧ s[1]? ≠ some 10 := by decide
    obtain ⟨g1, g2⟩ := h3 s h2
    obtain ⟨x, hx⟩ := hasPrefix_iff.1 h1
    show s.length ≤ _
    cases r with
    | cons d r => simp only [List.length_cons]; omega
    | nil =>
      rw [List.length_singleton]
      rcases Nat.lt_or_ge s.length 2 with h | h
      · omega
      · exfalso
        apply g2
        have e := congrArg (fun l : List UInt8 => l[1]?) hx
        simp only [List.nil_append, List.getElem?_cons_succ, List.getElem?_cons_zero] at e
        rw [List.getElem?_append_left (by omega)] at e
        exact e.symm
/-- A word that is read ahead of a line feed is the same whatever stands behind. -/
theorem word_feed (v v' : List UInt8) (c : UInt8) (r : List UInt8) (h0 : kindL (c :: (r ++ 10 :: v)) ≠ 0) (he : (wordL (c :: (r ++ 10 :: v))).err = 0) :
    wordL (c :: (r ++ 10 :: v')) = wordL (c :: (r ++ 10 :: v)) ∧ (wordL (c :: (r ++ 10 :: v))).size ≤ (c :: r).length := by
  have hk := kind_feed v v' c r
  have hp := (word_pos (t := c :: (r ++ 10 :: v)) (by simp) h0 he).2.2
  have hle := kind_le (c :: (r ++ 10 :: v))
  have h5 : kindL (c :: (r ++ 10 :: v)) ≠ 5 := fun e => by have := (kind_nil_iff _).1 e; cases this
  rw [hp]
  suffices H : headL (kindL (c :: (r ++ 10 :: v))) (c :: (r ++ 10 :: v')) = headL (kindL (c :: (r ++ 10 :: v))) (c :: (r ++ 10 :: v)) ∧ (headL (kindL (c :: (r ++ 10 :: v))) (c :: (r ++ 10 :: v))).length ≤ (c :: r).length by
    refine ⟨?_, H.2⟩
    show readW (kindL (c :: (r ++ 10 :: v'))) (headL (kindL (c :: (r ++ 10 :: v'))) (c :: (r ++ 10 :: v'))) = readW (kindL (c :: (r ++ 10 :: v))) (headL (kindL (c :: (r ++ 10 :: v))) (c :: (r ++ 10 :: v)))
    rw [← hk, H.1]
  have hcase : (kindL (c :: (r ++ 10 :: v)) = 1 ∨ kindL (c :: (r ++ 10 :: v)) = 2) ∨ kindL (c :: (r ++ 10 :: v)) = 3 ∨ kindL (c :: (r ++ 10 :: v)) = 4 := by omega
  rcases hcase with hk1 | hk3 | hk4
  · have e : ∀ x, headL (kindL (c :: (r ++ 10 :: v))) (c :: (r ++ 10 :: x)) = (c :: r).takeWhile nameB := fun x => by
      unfold headL
      rw [if_pos hk1]
      exact tw_feed (by decide) x (c :: r)
    rw [e, e]
    exact ⟨rfl, takeWhile_le _ _⟩
  · have hc34 : c = 34 := by
      rcases kind_cases c (r ++ 10 :: v) with ⟨_, e⟩ | ⟨_, ⟨_, e⟩ | ⟨_, _, e⟩ | ⟨_, _, g, _⟩ | ⟨_, _, _, e⟩⟩ <;> first | exact g | omega
    subst hc34
    have e : ∀ x, headL (kindL (34 :: (r ++ 10 :: v))) (34 :: (r ++ 10 :: x)) = (34 :: (r ++ 10 :: x)).take (quotedN (34 :: (r ++ 10 :: x))) := fun x => by
      unfold headL
      rw [if_neg (by rw [hk3]; decide), if_pos hk3]
    obtain ⟨f1, f2⟩ := close_feed v v' r false
    have hW : wordL (34 :: (r ++ 10 :: v)) = strW ((34 :: (r ++ 10 :: v)).take (quotedN (34 :: (r ++ 10 :: v)))) := by
      show readW (kindL (34 :: (r ++ 10 :: v))) (headL (kindL (34 :: (r ++ 10 :: v))) (34 :: (r ++ 10 :: v))) = _
      rw [e v, hk3]; rfl
    have hq : quotedR (34 :: (r ++ 10 :: v)) ≠ 0 := by
      intro h
      rw [hW, str_none h] at he
      revert he; decide
    have hqe : quotedR (34 :: (r ++ 10 :: v')) = quotedR (34 :: (r ++ 10 :: v)) := by
      unfold quotedR
      rw [List.drop_one, List.drop_one, List.tail_cons, List.tail_cons, f1]
    have hn : quotedR (34 :: (r ++ 10 :: v)) ≤ (34 :: r).length := by
      unfold quotedR
      rw [List.drop_one, List.tail_cons]
      cases g : closeR false (r ++ 10 :: v) with
      | none => simp
      | some n => have := f2 n g; simp only [List.length_cons]; omega
    have hq' : quotedR (34 :: (r ++ 10 :: v')) ≠ 0 := by rw [hqe]; exact hq
    rw [e, e, (str_some hq).1, (str_some hq').1, hqe]
    have ht : ∀ x, (34 :: (r ++ 10 :: x)).take (quotedR (34 :: (r ++ 10 :: v))) = (34 :: r).take (quotedR (34 :: (r ++ 10 :: v))) := fun x => by
      show ((34 :: r) ++ 10 :: x).take _ = _
      rw [List.take_append_of_le_length hn]
    rw [ht, ht]
    exact ⟨rfl, by rw [List.length_take]; omega⟩
  · have e : ∀ x, headL (kindL (c :: (r ++ 10 :: v))) (c :: (r ++ 10 :: x)) = signL (c :: (r ++ 10 :: x)) := fun x => by
      unfold headL
      rw [if_neg (by rw [hk4]; decide), if_neg (by rw [hk4]; decide)]
    rw [e, e]
    exact ⟨sign_feed v' v c r, sign_size v c r⟩
theorem push_bad {t : Tok} {r : Lexed} (h : r.err ≠ 0) : (pushL t r).err ≠ 0 := by unfold pushL; rw [if_neg h]; exact h
theorem push_glue6 (t : Tok) (a : List Tok) (r : Lexed) : pushL t (glueL a r) = glueL (t :: a) r := by
  unfold glueL pushL
  by_cases h : r.err = 0
  · simp [h]
  · simp [h]
/-- Two texts that are alike up to a line feed: something is wrong in the first, or they have the same words up to there. -/
theorem lex_two (v v' : List UInt8) : ∀ (k : Nat) (u : List UInt8) (l : Nat), u.length ≤ k → (tokL (u ++ 10 :: v) l).err ≠ 0 ∨ ∃ X l', tokL (u ++ 10 :: v) l = glueL X (tokL (10 :: v) l') ∧ tokL (u ++ 10 :: v') l = glueL X (tokL (10 :: v') l')
  | k, [], l, _ => .inr ⟨[], l, (glue_nil _).symm, (glue_nil _).symm⟩
  | 0, c :: r, l, h => by simp at h
  | k + 1, c :: r, l, h => by
    rw [List.length_cons] at h
    rw [List.cons_append, List.cons_append]
    by_cases hb : blankB c = true
    · rw [tokL_space l hb, tokL_space l hb]
      exact lex_two v v' k r _ (by omega)
    · have hb' : blankB c = false := by simpa using hb
      by_cases hp : Lib.hasPrefix (c :: (r ++ 10 :: v)) [45, 45] = true
      · have hp' : Lib.hasPrefix (c :: (r ++ 10 :: v')) [45, 45] = true := by rw [← hp]; cases r <;> rfl
        rw [tokL_remark l hp, tokL_remark l hp']
        have e : ∀ x, (c :: (r ++ 10 :: x)).takeWhile (· != 10) = (c :: r).takeWhile (· != 10) := fun x => tw_feed (by decide) x (c :: r)
        rw [e, e]
        have hle := takeWhile_le (· != 10) (c :: r)
        have h1 : 1 ≤ ((c :: r).takeWhile (· != 10)).length := by
          have : (c != 10) = true := by
            cases g : (c != 10) with
            | true => rfl
            | false =>
              have : c = 10 := by simpa using g
              subst this; revert hb'; decide
          rw [List.takeWhile_cons, this]; simp
        have ed : ∀ x, (c :: (r ++ 10 :: x)).drop ((c :: r).takeWhile (· != 10)).length = (c :: r).drop ((c :: r).takeWhile (· != 10)).length ++ 10 :: x := fun x => by
          show ((c :: r) ++ 10 :: x).drop _ = _
          rw [List.drop_append_of_le_length hle]
        rw [ed, ed]
        exact lex_two v v' k _ _ (by rw [List.length_drop, List.length_cons]; omega)
      · have h0 : kindL (c :: (r ++ 10 :: v)) ≠ 0 := by
          intro h0
          rcases kind_cases c (r ++ 10 :: v) with ⟨g | g, _⟩ | ⟨_, ⟨_, e⟩ | ⟨_, _, e⟩ | ⟨_, _, _, e⟩ | ⟨_, _, _, e⟩⟩
          · exact hb g
          · exact hp g
          all_goals omega
        by_cases he : (wordL (c :: (r ++ 10 :: v))).err = 0
        · obtain ⟨w1, w2⟩ := word_feed v v' c r h0 he
          have hpos := (word_pos (t := c :: (r ++ 10 :: v)) (by simp) h0 he).1
          have h0' : kindL (c :: (r ++ 10 :: v')) ≠ 0 := by rw [← kind_feed v v' c r]; exact h0
          rw [tokL_word l (by simp) h0 he, tokL_word l (by simp) h0' (by rw [w1]; exact he), w1]
          have ed : ∀ x, (c :: (r ++ 10 :: x)).drop (wordL (c :: (r ++ 10 :: v))).size = (c :: r).drop (wordL (c :: (r ++ 10 :: v))).size ++ 10 :: x := fun x => by
            show ((c :: r) ++ 10 :: x).drop _ = _
            rw [List.drop_append_of_le_length w2]
          rw [ed, ed]
          rcases lex_two v v' k ((c :: r).drop (wordL (c :: (r ++ 10 :: v))).size) l (by rw [List.length_drop, List.length_cons]; omega) with hx | ⟨X, l', e1, e2⟩
          · exact .inl (push_bad hx)
          · exact .inr ⟨_ :: X, l', by rw [e1, push_glue6], by rw [e2, push_glue6]⟩
        · exact .inl (by rw [tokL_bad l (by simp) h0 he]; exact he)
end Go.Proofs.YtoggkigfijgbfaaGreatDoor.P6
