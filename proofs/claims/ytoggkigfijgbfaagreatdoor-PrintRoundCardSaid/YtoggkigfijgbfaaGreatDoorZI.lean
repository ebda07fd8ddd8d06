/- What the parser makes are trees as statements have them, and so much fuel is enough for it. No walk, no program. | Fuel enough for the writer; likeness is symmetric; what a source gives. No walk, no program. -/
import Derived.Test.YtoggkigfijgbfaaGreatDoorZAbb
import Derived.Test.YtoggkigfijgbfaaGreatDoorZG
import Derived.Test.YtoggkigfijgbfaaGreatDoorZD
import Derived.Test.YtoggkigfijgbfaaGreatDoorZH
namespace Go.Proofs.YtoggkigfijgbfaaGreatDoor.P6
set_option maxRecDepth 20000

/-- A token: a text of at most 2^15 bytes, a number of 64 bits. -/
def TokB (t : Tok) : Prop := t.text.length ≤ 32768 ∧ (-9223372036854775808 ≤ t.num ∧ t.num ≤ 9223372036854775807)
/-- At most so many tokens. -/
def Tks (m : Nat) (ts : List Tok) : Prop := ts.length ≤ m ∧ ∀ t, t ∈ ts → TokB t
/-- A call ends; what it gives is so, and so many tokens fewer are left. -/
structure PEnds (r : Res) (m k : Nat) (P : Tree → Prop) : Prop where
  fin : r ≠ .out
  ok : ∀ x u, r = .ok x u → ((u.length + k ≤ m ∧ ∀ t, t ∈ u → TokB t) ∧ P x)
theorem PEnds.bad {c : Int} {l m k : Nat} {P : Tree → Prop} : PEnds (.bad c l) m k P := ⟨(by intro h; cases h), (by intro x u h; cases h)⟩
theorem PEnds.yes {x : Tree} {u : List Tok} {m k : Nat} {P : Tree → Prop} (h : Tks m u) (hk : k = 0) (hP : P x) : PEnds (.ok x u) m k P := by
  subst hk
  exact ⟨(by intro h; cases h), (by intro y v e; injection e with e1 e2; subst e1; subst e2; exact ⟨h, hP⟩)⟩
theorem PEnds.bind {r : Res} {f : Tree → List Tok → Res} {m k K : Nat} {P Q : Tree → Prop} (h : PEnds r m k P) (hf : ∀ x u m', m' + k = m → Tks m' u → P x → PEnds (f x u) m' (K - k) Q) : PEnds (r.bind f) m K Q := by
  cases r with
  | out => exact absurd rfl h.fin
  | bad c l => exact PEnds.bad
  | ok x u =>
    obtain ⟨⟨h1, h2⟩, h3⟩ := h.ok x u rfl
    have H := hf x u (m - k) (by omega) ⟨by omega, h2⟩ h3
    refine ⟨H.fin, fun y v e => ?_⟩
    obtain ⟨⟨g1, g2⟩, g3⟩ := H.ok y v e
    exact ⟨⟨by omega, g2⟩, g3⟩
theorem PEnds.imp {r : Res} {m k k' : Nat} {P Q : Tree → Prop} (h : PEnds r m k P) (hk : k' ≤ k) (hP : ∀ x, P x → Q x) : PEnds r m k' Q :=
  ⟨h.fin, fun x u e => by obtain ⟨⟨h1, h2⟩, h3⟩ := h.ok x u e; exact ⟨⟨by omega, h2⟩, hP x h3⟩⟩
theorem sgn_ne {ts : List Tok} (h : sgnT ts ≠ []) : ts ≠ [] := by intro e; subst e; exact h rfl
theorem tail_tks {m : Nat} {ts : List Tok} (h : Tks m ts) (hn : ts ≠ []) : ∃ m', m' + 1 = m ∧ Tks m' ts.tail := by
  cases ts with
  | nil => exact absurd rfl hn
  | cons t r =>
    have h1 := h.1
    simp only [List.length_cons] at h1
    exact ⟨m - 1, by omega, by show r.length ≤ m - 1; omega, fun x hx => h.2 x (List.mem_cons_of_mem _ hx)⟩
theorem tail_tks0 {m : Nat} {ts : List Tok} (h : Tks m ts) : Tks m ts.tail := by
  cases ts with
  | nil => exact h
  | cons t r =>
    have h1 := h.1
    simp only [List.length_cons] at h1
    exact ⟨by show r.length ≤ m; omega, fun x hx => h.2 x (List.mem_cons_of_mem _ hx)⟩
theorem hd_tok {m : Nat} {ts : List Tok} (h : Tks m ts) : TokB (hdT ts) := by
  cases ts with
  | nil => exact ⟨by simp [hdT], by simp [hdT]⟩
  | cons t r => exact h.2 t (List.mem_cons_self ..)
theorem sgn_len {m : Nat} {ts : List Tok} (h : Tks m ts) : (sgnT ts).length ≤ 32768 := by
  unfold sgnT
  split
  · exact (hd_tok h).1
  · simp
theorem kind_ne {ts : List Tok} {k : Nat} (h : (hdT ts).kind = k) (hk : k ≠ 5) : ts ≠ [] := by intro e; subst e; exact hk h.symm
theorem want1 {m : Nat} {ts : List Tok} {s : List UInt8} (h : Tks m ts) (hs : s ≠ []) : PEnds (wantT s ts) m 1 (fun _ => True) := by
  unfold wantT
  split
  · rename_i e
    obtain ⟨m', hm, h'⟩ := tail_tks h (sgn_ne (by rw [e]; exact hs))
    refine ⟨(by intro h; cases h), ?_⟩
    intro x u e; injection e with e1 e2; subst e2
    exact ⟨⟨by have := h'.1; omega, h'.2⟩, trivial⟩
  · exact PEnds.bad
theorem want0 {m : Nat} {ts : List Tok} {s : List UInt8} (h : Tks m ts) : PEnds (wantT s ts) m 0 (fun _ => True) := by
  unfold wantT
  split
  · exact PEnds.yes (tail_tks0 h) rfl trivial
  · exact PEnds.bad
theorem begin1 {m d : Nat} {ts : List Tok} {s : List UInt8} (h : Tks m ts) (hs : s ≠ []) : PEnds (beginT s d ts) m 1 (fun _ => True) := by
  unfold beginT
  split
  · exact PEnds.bad
  · exact want1 h hs
def IsTx (x : Tree) : Prop := ∃ s, x = .tx s ∧ s.length ≤ 32768
theorem name1 {m : Nat} {ts : List Tok} (h : Tks m ts) : PEnds (nameT ts) m 1 IsTx := by
  unfold nameT
  split
  · rename_i e
    obtain ⟨m', hm, h'⟩ := tail_tks h (kind_ne e (by decide))
    refine ⟨(by intro h; cases h), ?_⟩
    intro x u e; injection e with e1 e2; subst e1; subst e2
    exact ⟨⟨by have := h'.1; omega, h'.2⟩, _, rfl, (hd_tok h).1⟩
  · exact PEnds.bad
theorem tx_len {x : Tree} (h : IsTx x) : (textT x).length ≤ 32768 := by obtain ⟨s, rfl, hs⟩ := h; exact hs
theorem ok_ex {k l n : Int} {s : List UInt8} {a b ks xs ps bd : Tree} (hs : s.length ≤ 32768) (hn : -9223372036854775808 ≤ n ∧ n ≤ 9223372036854775807) (ha : okT .e a = true) (hb : okT .e b = true) (hk : okT .es ks = true ∧ lenT ks ≤ 1048576) (hx : okT .es xs = true ∧ lenT xs ≤ 1048576) (hp : okT .ts ps = true ∧ lenT ps ≤ 1048576) (hd : okT .ss bd = true ∧ lenT bd ≤ 1048576) : okT .e (.ex k l n s a b ks xs ps bd) = true := by
  simp only [okT, Bool.and_eq_true, decide_eq_true_eq]
  exact ⟨⟨hs, hn⟩, ha, hb, ⟨hk.2, hk.1⟩, ⟨hx.2, hx.1⟩, ⟨hp.2, hp.1⟩, hd.2, hd.1⟩
theorem ok_st {k l : Int} {s : List UInt8} {a b c x y : Tree} (hs : s.length ≤ 32768) (ha : okT .e a = true) (hb : okT .e b = true) (hc : okT .e c = true) (hx : okT .ss x = true ∧ lenT x ≤ 1048576) (hy : okT .ss y = true ∧ lenT y ≤ 1048576) : okT .s (.st k l s a b c x y) = true := by
  simp only [okT, Bool.and_eq_true, decide_eq_true_eq]
  exact ⟨hs, ha, hb, hc, ⟨hx.2, hx.1⟩, hy.2, hy.1⟩
theorem ok_nil_es : okT .es .nil = true ∧ lenT .nil ≤ 1048576 := ⟨rfl, Nat.zero_le _⟩
theorem ok_nil_ts : okT .ts .nil = true ∧ lenT .nil ≤ 1048576 := ⟨rfl, Nat.zero_le _⟩
theorem ok_nil_ss : okT .ss .nil = true ∧ lenT .nil ≤ 1048576 := ⟨rfl, Nat.zero_le _⟩
theorem num0 : (-9223372036854775808 : Int) ≤ 0 ∧ (0 : Int) ≤ 9223372036854775807 := by decide
theorem named1 {m : Nat} {ts : List Tok} {kind : Int} (h : Tks m ts) : PEnds (namedT kind ts) m 1 (fun x => okT .e x = true ∧ (textT x).length ≤ 32768) := by
  unfold namedT
  refine (name1 h).bind fun x u m' hm hu hx => ?_
  exact PEnds.yes hu rfl ⟨ok_ex (tx_len hx) num0 rfl rfl ok_nil_es ok_nil_es ok_nil_ts ok_nil_ss, (show (textT x).length ≤ 32768 from tx_len hx)⟩
theorem word1 {m : Nat} {ts : List Tok} (h : Tks m ts) : PEnds (wordT ts) m 1 (fun x => okT .e x = true) := by
  have T := hd_tok h
  have go : ∀ {x : Tree}, ts ≠ [] → okT .e x = true → PEnds (.ok x ts.tail) m 1 (fun x => okT .e x = true) := by
    intro x hn hx
    obtain ⟨m', hm, h'⟩ := tail_tks h hn
    refine ⟨(by intro h; cases h), ?_⟩
    intro x u e; injection e with e1 e2; subst e1; subst e2
    exact ⟨⟨by have := h'.1; omega, h'.2⟩, hx⟩
  unfold wordT
  split
  · rename_i e; exact go (kind_ne e (by decide)) (ok_ex T.1 num0 rfl rfl ok_nil_es ok_nil_es ok_nil_ts ok_nil_ss)
  · split
    · rename_i e; exact go (kind_ne e (by decide)) (ok_ex (by simp) T.2 rfl rfl ok_nil_es ok_nil_es ok_nil_ts ok_nil_ss)
    · split
      · rename_i e; exact go (kind_ne e (by decide)) (ok_ex T.1 num0 rfl rfl ok_nil_es ok_nil_es ok_nil_ts ok_nil_ss)
      · split
        · exact PEnds.bad
        · rename_i e
          refine go (sgn_ne ?_) (ok_ex (by simp) num0 rfl rfl ok_nil_es ok_nil_es ok_nil_ts ok_nil_ss)
          intro e2; rw [e2] at e; exact e rfl
def OneOK (k : Nat) (x : Tree) : Prop := if k = 0 then okT .e x = true else if k = 1 then IsTx x else okT .e x.fst = true ∧ okT .e x.snd = true
def ListOK (k : Nat) (x : Tree) : Prop := if k = 0 then okT .es x = true ∧ lenT x ≤ 1048576 else if k = 1 then okT .ts x = true ∧ lenT x ≤ 1048576 else (okT .es (firstsT x) = true ∧ lenT (firstsT x) ≤ 1048576) ∧ (okT .es (secondsT x) = true ∧ lenT (secondsT x) ≤ 1048576)
theorem ListOK.nil (k : Nat) : ListOK k .nil := by
  unfold ListOK
  split
  · exact ok_nil_es
  · split
    · exact ok_nil_ts
    · exact ⟨ok_nil_es, ok_nil_es⟩
theorem len_tree (l : List Tree) : lenT (treeL l) = l.length := by
  induction l with
  | nil => rfl
  | cons x r ih => simp only [treeL, lenT, List.length_cons, ih]
theorem len_firsts : ∀ x : Tree, lenT (firstsT x) = lenT x
  | .cons a b => by simp only [firstsT, lenT, len_firsts b]
  | .nil => rfl
  | .tx _ => rfl
  | .ex .. => rfl
  | .st .. => rfl
theorem len_seconds : ∀ x : Tree, lenT (secondsT x) = lenT x
  | .cons a b => by simp only [secondsT, lenT, len_seconds b]
  | .nil => rfl
  | .tx _ => rfl
  | .ex .. => rfl
  | .st .. => rfl
theorem tree_es : ∀ {l : List Tree}, (∀ x, x ∈ l → okT .e x = true) → okT .es (treeL l) = true
  | [], _ => rfl
  | x :: r, h => by
    simp only [treeL, okT, Bool.and_eq_true]
    exact ⟨h x (List.mem_cons_self ..), tree_es fun y hy => h y (List.mem_cons_of_mem _ hy)⟩
theorem tree_ss : ∀ {l : List Tree}, (∀ x, x ∈ l → okT .s x = true) → okT .ss (treeL l) = true
  | [], _ => rfl
  | x :: r, h => by
    simp only [treeL, okT, Bool.and_eq_true]
    exact ⟨h x (List.mem_cons_self ..), tree_ss fun y hy => h y (List.mem_cons_of_mem _ hy)⟩
theorem tree_ts : ∀ {l : List Tree}, (∀ x, x ∈ l → IsTx x) → okT .ts (treeL l) = true
  | [], _ => rfl
  | x :: r, h => by
    obtain ⟨s, rfl, hs⟩ := h x (List.mem_cons_self ..)
    simp only [treeL, okT, Bool.and_eq_true, decide_eq_true_eq]
    exact ⟨hs, tree_ts fun y hy => h y (List.mem_cons_of_mem _ hy)⟩
theorem tree_firsts : ∀ {l : List Tree}, (∀ x, x ∈ l → okT .e x.fst = true) → okT .es (firstsT (treeL l)) = true
  | [], _ => rfl
  | x :: r, h => by
    simp only [treeL, firstsT, okT, Bool.and_eq_true]
    exact ⟨h x (List.mem_cons_self ..), tree_firsts fun y hy => h y (List.mem_cons_of_mem _ hy)⟩
theorem tree_seconds : ∀ {l : List Tree}, (∀ x, x ∈ l → okT .e x.snd = true) → okT .es (secondsT (treeL l)) = true
  | [], _ => rfl
  | x :: r, h => by
    simp only [treeL, secondsT, okT, Bool.and_eq_true]
    exact ⟨h x (List.mem_cons_self ..), tree_seconds fun y hy => h y (List.mem_cons_of_mem _ hy)⟩
theorem ListOK.of {k : Nat} {l : List Tree} (h : ∀ x, x ∈ l → OneOK k x) (hl : l.length ≤ 1048576) : ListOK k (treeL l) := by
  unfold ListOK
  split
  · rename_i e; subst e; exact ⟨tree_es h, by rw [len_tree]; exact hl⟩
  · split
    · rename_i e; subst e; exact ⟨tree_ts h, by rw [len_tree]; exact hl⟩
    · rename_i e0 e1
      have H : ∀ x, x ∈ l → okT .e x.fst = true ∧ okT .e x.snd = true := fun x hx => by have := h x hx; unfold OneOK at this; rw [if_neg e0, if_neg e1] at this; exact this
      exact ⟨⟨tree_firsts fun x hx => (H x hx).1, by rw [len_firsts, len_tree]; exact hl⟩, tree_seconds fun x hx => (H x hx).2, by rw [len_seconds, len_tree]; exact hl⟩
def rankG : Goal → Nat
  | .operation _ => 7
  | .opLoop _ _ => 2
  | .behind _ => 1
  | .operand => 6
  | .postExpr => 5
  | .postLoop _ _ => 3
  | .list _ _ _ => 1
  | .listLoop _ _ _ => 1
  | .one _ => 9
  | .primary => 4
  | .enclosed _ _ => 1
  | .function => 1
  | .namedFunction => 1
  | .body _ => 2
  | .table => 2
  | .item => 8
  | .block _ => 1
  | .stmts => 12
  | .stmtsLoop _ => 11
  | .stmt => 10
  | .local_ _ => 1
  | .while_ _ => 1
  | .count _ => 1
  | .choice _ _ => 9
  | .condition _ _ => 8
  | .result _ => 1
  | .try_ _ => 2
  | .post _ => 6
def leastG : Goal → Nat
  | .opLoop _ _ => 0
  | .postLoop _ _ => 0
  | .listLoop _ _ _ => 0
  | .stmts => 0
  | .stmtsLoop _ => 0
  | _ => 1
def PreG (g : Goal) (m : Nat) (ts : List Tok) : Prop := match g with
  | .opLoop least e => okT .e e = true ∧ 1 ≤ least
  | .operation least => 1 ≤ least
  | .behind l => okT .e l = true ∧ sgnT ts ≠ []
  | .postLoop e _ => okT .e e = true
  | .list first _ _ => first ≠ []
  | .enclosed first _ => first ≠ []
  | .listLoop _ k acc => (∀ x, x ∈ acc → OneOK k x) ∧ acc.length + m ≤ 1048576
  | .block word => word ≠ []
  | .stmtsLoop acc => (∀ x, x ∈ acc → okT .s x = true) ∧ acc.length + m ≤ 1048576
  | _ => True
def PostG (g : Goal) (x : Tree) : Prop := match g with
  | .postExpr => okT .e x.snd = true
  | .postLoop _ _ => okT .e x.snd = true
  | .list _ _ k => ListOK k x
  | .listLoop _ k _ => ListOK k x
  | .one k => OneOK k x
  | .item => okT .e x.fst = true ∧ okT .e x.snd = true
  | .namedFunction => (okT .e x.fst = true ∧ (textT x.fst).length ≤ 32768) ∧ okT .e x.snd = true
  | .block _ => okT .ss x = true ∧ lenT x ≤ 1048576
  | .stmts => okT .ss x = true ∧ lenT x ≤ 1048576
  | .stmtsLoop _ => okT .ss x = true ∧ lenT x ≤ 1048576
  | .stmt => okT .s x = true
  | .local_ _ => okT .s x = true
  | .while_ _ => okT .s x = true
  | .count _ => okT .s x = true
  | .choice _ _ => okT .s x = true
  | .condition _ _ => okT .s x = true
  | .result _ => okT .s x = true
  | .try_ _ => okT .s x = true
  | .post _ => okT .s x = true
  | _ => okT .e x = true
/-- All calls at a fuel. -/
def PAll (n : Nat) : Prop := ∀ g d ts m, Tks m ts → m ≤ 1048576 → 32 * m + rankG g ≤ n → PreG g m ts → PEnds (parseF n g d ts) m (leastG g) (PostG g)
theorem strength_sgn {ts : List Tok} (h : 1 ≤ strengthT (sgnT ts)) : sgnT ts ≠ [] := by intro e; rw [e] at h; exact absurd h (by decide)
theorem with_ok {s b : Tree} (hs : okT .s s = true) (hb : okT .ss b = true ∧ lenT b ≤ 1048576) : okT .s (withB s b) = true := by
  cases s with
  | st k l n a b' c d e =>
    simp only [okT, Bool.and_eq_true, decide_eq_true_eq] at hs
    exact ok_st hs.1 hs.2.1 hs.2.2.1 hs.2.2.2.1 ⟨hs.2.2.2.2.1.2, hs.2.2.2.2.1.1⟩ hb
  | _ => exact hs
theorem mem_snoc {α : Type} {P : α → Prop} {l : List α} {y : α} (h : ∀ x, x ∈ l → P x) (hy : P y) : ∀ x, x ∈ l ++ [y] → P x := by
  intro x hx
  rcases List.mem_append.1 hx with h1 | h1
  · exact h x h1
  · rw [List.mem_singleton.1 h1]; exact hy
theorem mem_one {α : Type} {P : α → Prop} {y : α} (hy : P y) : ∀ x, x ∈ [y] → P x := by
  intro x h1; rw [List.mem_singleton.1 h1]; exact hy
section
variable {n : Nat} (S : PAll n) {d m : Nat} {ts : List Tok} (h : Tks m ts) (hm : m ≤ 1048576)
include S h hm
theorem pa_operation (least : Nat) (hn : 32 * m + 7 ≤ n + 1) (hp : PreG (.operation least) m ts) : PEnds (parseF (n + 1) (.operation least) d ts) m (leastG (.operation least)) (PostG (.operation least)) := by
  simp only [parseF]
  refine (S (.operand) _ _ _ h hm (by simp only [rankG]; omega) trivial).bind fun x1 u1 m1 e1 h1 q1 => ?_
  replace e1 : m1 + 1 = m := e1
  exact (S (.opLoop least x1) _ _ _ h1 (by omega) (by simp only [rankG]; omega) ⟨q1, hp⟩).imp ab13 (fun _ hx => hx)
theorem pa_opLoop (least : Nat) (e : Tree) (hn : 32 * m + 2 ≤ n + 1) (hp : PreG (.opLoop least e) m ts) : PEnds (parseF (n + 1) (.opLoop least e) d ts) m (leastG (.opLoop least e)) (PostG (.opLoop least e)) := by
  simp only [parseF]
  split
  · rename_i c1
    refine (S (.behind e) _ _ _ h hm (by simp only [rankG]; omega) ⟨hp.1, strength_sgn (Nat.le_trans hp.2 c1)⟩).bind fun x1 u1 m1 e1 h1 q1 => ?_
    replace e1 : m1 + 1 = m := e1
    exact (S (.opLoop least x1) _ _ _ h1 (by omega) (by simp only [rankG]; omega) ⟨q1, hp.2⟩).imp ab13 (fun _ hx => hx)
  · rename_i c1
    exact PEnds.yes h rfl (hp.1)
theorem pa_behind (l : Tree) (hn : 32 * m + 1 ≤ n + 1) (hp : PreG (.behind l) m ts) : PEnds (parseF (n + 1) (.behind l) d ts) m (leastG (.behind l)) (PostG (.behind l)) := by
  simp only [parseF]
  split
  · rename_i c1
    refine (begin1 h (by decide)).bind fun x1 u1 m1 e1 h1 q1 => ?_
    refine (S (.operation 8) _ _ _ h1 (by omega) (by simp only [rankG]; omega) (show 1 ≤ 8 by decide)).bind fun x2 u2 m2 e2 h2 q2 => ?_
    replace e2 : m2 + 1 = m1 := e2
    exact PEnds.yes h2 rfl (ok_ex (sgn_len h) num0 hp.1 q2 ok_nil_es ok_nil_es ok_nil_ts ok_nil_ss)
  · rename_i c1
    refine (want1 h hp.2).bind fun x3 u3 m3 e3 h3 q3 => ?_
    refine (S (.operation (strengthT (sgnT ts) + 1)) _ _ _ h3 (by omega) (by simp only [rankG]; omega) (Nat.le_add_left 1 _)).bind fun x4 u4 m4 e4 h4 q4 => ?_
    replace e4 : m4 + 1 = m3 := e4
    exact PEnds.yes h4 rfl (ok_ex (sgn_len h) num0 hp.1 q4 ok_nil_es ok_nil_es ok_nil_ts ok_nil_ss)
theorem pa_operand (hn : 32 * m + 6 ≤ n + 1) : PEnds (parseF (n + 1) (.operand) d ts) m (leastG (.operand)) (PostG (.operand)) := by
  simp only [parseF]
  split
  · rename_i c1
    have hs : sgnT ts ≠ [] := by rcases c1 with e | e | e | e <;> (rw [e]; decide)
    refine (begin1 h hs).bind fun x1 u1 m1 e1 h1 q1 => ?_
    refine (S (.operand) _ _ _ h1 (by omega) (by simp only [rankG]; omega) trivial).bind fun x2 u2 m2 e2 h2 q2 => ?_
    replace e2 : m2 + 1 = m1 := e2
    exact PEnds.yes h2 rfl (ok_ex (sgn_len h) num0 rfl q2 ok_nil_es ok_nil_es ok_nil_ts ok_nil_ss)
  · rename_i c1
    refine (S (.postExpr) _ _ _ h hm (by simp only [rankG]; omega) trivial).bind fun x3 u3 m3 e3 h3 q3 => ?_
    replace e3 : m3 + 1 = m := e3
    exact PEnds.yes h3 rfl (q3)
theorem pa_postExpr (hn : 32 * m + 5 ≤ n + 1) : PEnds (parseF (n + 1) (.postExpr) d ts) m (leastG (.postExpr)) (PostG (.postExpr)) := by
  simp only [parseF]
  refine (S (.primary) _ _ _ h hm (by simp only [rankG]; omega) trivial).bind fun x1 u1 m1 e1 h1 q1 => ?_
  replace e1 : m1 + 1 = m := e1
  exact (S (.postLoop x1 (decide (sgnT ts = [40]))) _ _ _ h1 (by omega) (by simp only [rankG]; omega) q1).imp ab13 (fun _ hx => hx)
theorem pa_postLoop (e : Tree) (enc : Bool) (hn : 32 * m + 3 ≤ n + 1) (hp : PreG (.postLoop e enc) m ts) : PEnds (parseF (n + 1) (.postLoop e enc) d ts) m (leastG (.postLoop e enc)) (PostG (.postLoop e enc)) := by
  simp only [parseF]
  split
  · rename_i c1
    refine (S (.enclosed [91] [93]) _ _ _ h hm (by simp only [rankG]; omega) (show ([91] : List UInt8) ≠ [] by decide)).bind fun x1 u1 m1 e1 h1 q1 => ?_
    replace e1 : m1 + 1 = m := e1
    exact (S (.postLoop (.ex 7 (linT ts) 0 [] e x1 .nil .nil .nil .nil) false) _ _ _ h1 (by omega) (by simp only [rankG]; omega) (ok_ex (by simp) num0 hp q1 ok_nil_es ok_nil_es ok_nil_ts ok_nil_ss)).imp ab13 (fun _ hx => hx)
  · rename_i c1
    split
    · rename_i c2
      obtain ⟨m2, e2, h2⟩ := tail_tks h (sgn_ne (by rw [c2]; decide))
      refine PEnds.imp (k := 0) (m := m) (P := PostG (.postLoop e enc)) ?_ ab13 (fun _ hx => hx)
      suffices H : PEnds ((namedT 5 ts.tail).bind fun x ts2 => parseF n (.postLoop (.ex 7 (linT ts) 0 [] e x .nil .nil .nil .nil) false) d ts2) m2 0 (PostG (.postLoop e enc)) from ⟨H.fin, fun x u hx => ⟨⟨by have := (H.ok x u hx).1.1; omega, (H.ok x u hx).1.2⟩, (H.ok x u hx).2⟩⟩
      refine (named1 h2).bind fun x3 u3 m3 e3 h3 q3 => ?_
      exact (S (.postLoop (.ex 7 (linT ts) 0 [] e x3 .nil .nil .nil .nil) false) _ _ _ h3 (by omega) (by simp only [rankG]; omega) (ok_ex (by simp) num0 hp q3.1 ok_nil_es ok_nil_es ok_nil_ts ok_nil_ss)).imp ab13 (fun _ hx => hx)
    · rename_i c2
      split
      · rename_i c3
        refine (S (.list [40] [41] 0) _ _ _ h hm (by simp only [rankG]; omega) (show ([40] : List UInt8) ≠ [] by decide)).bind fun x4 u4 m4 e4 h4 q4 => ?_
        replace e4 : m4 + 1 = m := e4
        exact (S (.postLoop (.ex 8 (linT ts) 0 [] e .nil .nil x4 .nil .nil) false) _ _ _ h4 (by omega) (by simp only [rankG]; omega) (ok_ex (by simp) num0 hp rfl ok_nil_es q4 ok_nil_ts ok_nil_ss)).imp ab13 (fun _ hx => hx)
      · rename_i c3
        exact PEnds.yes h rfl (hp)
theorem pa_list (first last : List UInt8) (k : Nat) (hn : 32 * m + 1 ≤ n + 1) (hp : PreG (.list first last k) m ts) : PEnds (parseF (n + 1) (.list first last k) d ts) m (leastG (.list first last k)) (PostG (.list first last k)) := by
  simp only [parseF]
  refine (begin1 h hp).bind fun x1 u1 m1 e1 h1 q1 => ?_
  split
  · rename_i c1
    refine (want0 h1).bind fun x2 u2 m2 e2 h2 q2 => ?_
    exact PEnds.yes h2 rfl (ListOK.nil k)
  · rename_i c1
    refine (S (.one k) _ _ _ h1 (by omega) (by simp only [rankG]; omega) trivial).bind fun x3 u3 m3 e3 h3 q3 => ?_
    replace e3 : m3 + 1 = m1 := e3
    exact (S (.listLoop last k [x3]) _ _ _ h3 (by omega) (by simp only [rankG]; omega) ⟨mem_one q3, (by simp only [List.length_cons, List.length_nil]; omega)⟩).imp ab13 (fun _ hx => hx)
theorem pa_listLoop (last : List UInt8) (k : Nat) (acc : List Tree) (hn : 32 * m + 1 ≤ n + 1) (hp : PreG (.listLoop last k acc) m ts) : PEnds (parseF (n + 1) (.listLoop last k acc) d ts) m (leastG (.listLoop last k acc)) (PostG (.listLoop last k acc)) := by
  simp only [parseF]
  have hp2 := hp.2
  split
  · rename_i c1
    obtain ⟨m1, e1, h1⟩ := tail_tks h (sgn_ne (by rw [c1]; decide))
    suffices H : PEnds ((parseF n (.one k) d ts.tail).bind fun x ts2 => parseF n (.listLoop last k (acc ++ [x])) d ts2) m1 0 (PostG (.listLoop last k acc)) from ⟨H.fin, fun x u hx => ⟨⟨by have := (H.ok x u hx).1.1; show u.length + 0 ≤ m; omega, (H.ok x u hx).1.2⟩, (H.ok x u hx).2⟩⟩
    refine (S (.one k) _ _ _ h1 (by omega) (by simp only [rankG]; omega) trivial).bind fun x2 u2 m2 e2 h2 q2 => ?_
    replace e2 : m2 + 1 = m1 := e2
    exact (S (.listLoop last k (acc ++ [x2])) _ _ _ h2 (by omega) (by simp only [rankG]; omega) ⟨mem_snoc hp.1 q2, (by simp only [List.length_append, List.length_cons, List.length_nil]; omega)⟩).imp ab13 (fun _ hx => hx)
  · rename_i c1
    refine (want0 h).bind fun x3 u3 m3 e3 h3 q3 => ?_
    exact PEnds.yes h3 rfl (ListOK.of hp.1 (by omega))
theorem pa_one (k : Nat) (hn : 32 * m + 9 ≤ n + 1) : PEnds (parseF (n + 1) (.one k) d ts) m (leastG (.one k)) (PostG (.one k)) := by
  simp only [parseF]
  split
  · rename_i c1
    subst c1
    exact (S (.operation 1) _ _ _ h hm (by simp only [rankG]; omega) (show 1 ≤ 1 by decide)).imp ab13 (fun _ hx => hx)
  · rename_i c1
    split
    · rename_i c2
      subst c2
      exact (name1 h).imp ab13 (fun _ hx => hx)
    · rename_i c2
      exact (S (.item) _ _ _ h hm (by simp only [rankG]; omega) trivial).imp ab13 (fun x hx => (by show OneOK k x; unfold OneOK; rw [if_neg c1, if_neg c2]; exact hx))
theorem pa_primary (hn : 32 * m + 4 ≤ n + 1) : PEnds (parseF (n + 1) (.primary) d ts) m (leastG (.primary)) (PostG (.primary)) := by
  simp only [parseF]
  split
  · rename_i c1
    exact (S (.enclosed [40] [41]) _ _ _ h hm (by simp only [rankG]; omega) (show ([40] : List UInt8) ≠ [] by decide)).imp ab13 (fun _ hx => hx)
  · rename_i c1
    split
    · rename_i c2
      exact (S (.function) _ _ _ h hm (by simp only [rankG]; omega) trivial).imp ab13 (fun _ hx => hx)
    · rename_i c2
      split
      · rename_i c3
        exact (S (.table) _ _ _ h hm (by simp only [rankG]; omega) trivial).imp ab13 (fun _ hx => hx)
      · rename_i c3
        exact (word1 h).imp ab13 (fun _ hx => hx)
theorem pa_enclosed (first last : List UInt8) (hn : 32 * m + 1 ≤ n + 1) (hp : PreG (.enclosed first last) m ts) : PEnds (parseF (n + 1) (.enclosed first last) d ts) m (leastG (.enclosed first last)) (PostG (.enclosed first last)) := by
  simp only [parseF]
  refine (begin1 h hp).bind fun x1 u1 m1 e1 h1 q1 => ?_
  refine (S (.operation 1) _ _ _ h1 (by omega) (by simp only [rankG]; omega) (show 1 ≤ 1 by decide)).bind fun x2 u2 m2 e2 h2 q2 => ?_
  replace e2 : m2 + 1 = m1 := e2
  refine (want0 h2).bind fun x3 u3 m3 e3 h3 q3 => ?_
  exact PEnds.yes h3 rfl (q2)
theorem pa_function (hn : 32 * m + 1 ≤ n + 1) : PEnds (parseF (n + 1) (.function) d ts) m (leastG (.function)) (PostG (.function)) := by
  simp only [parseF]
  refine (begin1 h (by decide)).bind fun x1 u1 m1 e1 h1 q1 => ?_
  exact (S (.body (linT ts)) _ _ _ h1 (by omega) (by simp only [rankG]; omega) trivial).imp ab13 (fun _ hx => hx)
theorem pa_namedFunction (hn : 32 * m + 1 ≤ n + 1) : PEnds (parseF (n + 1) (.namedFunction) d ts) m (leastG (.namedFunction)) (PostG (.namedFunction)) := by
  simp only [parseF]
  refine (begin1 h (by decide)).bind fun x1 u1 m1 e1 h1 q1 => ?_
  refine (named1 h1).bind fun x2 u2 m2 e2 h2 q2 => ?_
  refine (S (.body (linT ts)) _ _ _ h2 (by omega) (by simp only [rankG]; omega) trivial).bind fun x3 u3 m3 e3 h3 q3 => ?_
  replace e3 : m3 + 1 = m2 := e3
  exact PEnds.yes h3 rfl (⟨q2, q3⟩)
theorem pa_body (line : Nat) (hn : 32 * m + 2 ≤ n + 1) : PEnds (parseF (n + 1) (.body line) d ts) m (leastG (.body line)) (PostG (.body line)) := by
  simp only [parseF]
  refine (S (.list [40] [41] 1) _ _ _ h hm (by simp only [rankG]; omega) (show ([40] : List UInt8) ≠ [] by decide)).bind fun x1 u1 m1 e1 h1 q1 => ?_
  replace e1 : m1 + 1 = m := e1
  refine (S (.stmts) _ _ _ h1 (by omega) (by simp only [rankG]; omega) trivial).bind fun x2 u2 m2 e2 h2 q2 => ?_
  replace e2 : m2 + 0 = m1 := e2
  refine (want0 h2).bind fun x3 u3 m3 e3 h3 q3 => ?_
  exact PEnds.yes h3 rfl (ok_ex (by simp) num0 rfl rfl ok_nil_es ok_nil_es q1 q2)
theorem pa_table (hn : 32 * m + 2 ≤ n + 1) : PEnds (parseF (n + 1) (.table) d ts) m (leastG (.table)) (PostG (.table)) := by
  simp only [parseF]
  refine (S (.list [123] [125] 2) _ _ _ h hm (by simp only [rankG]; omega) (show ([123] : List UInt8) ≠ [] by decide)).bind fun x1 u1 m1 e1 h1 q1 => ?_
  replace e1 : m1 + 1 = m := e1
  exact PEnds.yes h1 rfl (ok_ex (by simp) num0 rfl rfl q1.1 q1.2 ok_nil_ts ok_nil_ss)
theorem pa_item (hn : 32 * m + 8 ≤ n + 1) : PEnds (parseF (n + 1) (.item) d ts) m (leastG (.item)) (PostG (.item)) := by
  simp only [parseF]
  split
  · rename_i c1
    refine (S (.enclosed [91] [93]) _ _ _ h hm (by simp only [rankG]; omega) (show ([91] : List UInt8) ≠ [] by decide)).bind fun x1 u1 m1 e1 h1 q1 => ?_
    replace e1 : m1 + 1 = m := e1
    refine (want0 h1).bind fun x2 u2 m2 e2 h2 q2 => ?_
    refine (S (.operation 1) _ _ _ h2 (by omega) (by simp only [rankG]; omega) (show 1 ≤ 1 by decide)).bind fun x3 u3 m3 e3 h3 q3 => ?_
    replace e3 : m3 + 1 = m2 := e3
    exact PEnds.yes h3 rfl (⟨q1, q3⟩)
  · rename_i c1
    split
    · rename_i c2
      refine (named1 h).bind fun x4 u4 m4 e4 h4 q4 => ?_
      refine (want0 h4).bind fun x5 u5 m5 e5 h5 q5 => ?_
      refine (S (.operation 1) _ _ _ h5 (by omega) (by simp only [rankG]; omega) (show 1 ≤ 1 by decide)).bind fun x6 u6 m6 e6 h6 q6 => ?_
      replace e6 : m6 + 1 = m5 := e6
      exact PEnds.yes h6 rfl (⟨q4.1, q6⟩)
    · rename_i c2
      refine (S (.operation 1) _ _ _ h hm (by simp only [rankG]; omega) (show 1 ≤ 1 by decide)).bind fun x7 u7 m7 e7 h7 q7 => ?_
      replace e7 : m7 + 1 = m := e7
      exact PEnds.yes h7 rfl (⟨rfl, q7⟩)
theorem pa_block (word : List UInt8) (hn : 32 * m + 1 ≤ n + 1) (hp : PreG (.block word) m ts) : PEnds (parseF (n + 1) (.block word) d ts) m (leastG (.block word)) (PostG (.block word)) := by
  simp only [parseF]
  refine (begin1 h hp).bind fun x1 u1 m1 e1 h1 q1 => ?_
  exact (S (.stmts) _ _ _ h1 (by omega) (by simp only [rankG]; omega) trivial).imp ab13 (fun _ hx => hx)
theorem pa_stmts (hn : 32 * m + 12 ≤ n + 1) : PEnds (parseF (n + 1) (.stmts) d ts) m (leastG (.stmts)) (PostG (.stmts)) := by
  simp only [parseF]
  exact (S (.stmtsLoop []) _ _ _ h hm (by simp only [rankG]; omega) ⟨(by intro x hx; cases hx), (by simp only [List.length_nil]; omega)⟩).imp ab13 (fun _ hx => hx)
theorem pa_stmtsLoop (acc : List Tree) (hn : 32 * m + 11 ≤ n + 1) (hp : PreG (.stmtsLoop acc) m ts) : PEnds (parseF (n + 1) (.stmtsLoop acc) d ts) m (leastG (.stmtsLoop acc)) (PostG (.stmtsLoop acc)) := by
  simp only [parseF]
  have hp2 := hp.2
  split
  · rename_i c1
    exact PEnds.yes h rfl (⟨tree_ss hp.1, by rw [len_tree]; omega⟩)
  · rename_i c1
    refine (S (.stmt) _ _ _ h hm (by simp only [rankG]; omega) trivial).bind fun x1 u1 m1 e1 h1 q1 => ?_
    replace e1 : m1 + 1 = m := e1
    split
    · rename_i c2
      exact PEnds.yes h1 rfl (⟨tree_ss (mem_snoc hp.1 q1), by rw [len_tree]; simp only [List.length_append, List.length_cons, List.length_nil]; omega⟩)
    · rename_i c2
      exact (S (.stmtsLoop (acc ++ [x1])) _ _ _ h1 (by omega) (by simp only [rankG]; omega) ⟨mem_snoc hp.1 q1, (by simp only [List.length_append, List.length_cons, List.length_nil]; omega)⟩).imp ab13 (fun _ hx => hx)
theorem pa_stmt (hn : 32 * m + 10 ≤ n + 1) : PEnds (parseF (n + 1) (.stmt) d ts) m (leastG (.stmt)) (PostG (.stmt)) := by
  simp only [parseF]
  split
  · rename_i c1
    exact (S (.local_ (linT ts)) _ _ _ h hm (by simp only [rankG]; omega) trivial).imp ab13 (fun _ hx => hx)
  · rename_i c1
    split
    · rename_i c2
      refine (S (.block [100, 111]) _ _ _ h hm (by simp only [rankG]; omega) (show ([100, 111] : List UInt8) ≠ [] by decide)).bind fun x1 u1 m1 e1 h1 q1 => ?_
      replace e1 : m1 + 1 = m := e1
      refine (want0 h1).bind fun x2 u2 m2 e2 h2 q2 => ?_
      exact PEnds.yes h2 rfl (ok_st (by simp) rfl rfl rfl q1 ok_nil_ss)
    · rename_i c2
      split
      · rename_i c3
        exact (S (.while_ (linT ts)) _ _ _ h hm (by simp only [rankG]; omega) trivial).imp ab13 (fun _ hx => hx)
      · rename_i c3
        split
        · rename_i c4
          exact (S (.count (linT ts)) _ _ _ h hm (by simp only [rankG]; omega) trivial).imp ab13 (fun _ hx => hx)
        · rename_i c4
          split
          · rename_i c5
            exact (S (.choice [105, 102] (linT ts)) _ _ _ h hm (by simp only [rankG]; omega) trivial).imp ab13 (fun _ hx => hx)
          · rename_i c5
            split
            · rename_i c6
              exact (S (.result (linT ts)) _ _ _ h hm (by simp only [rankG]; omega) trivial).imp ab13 (fun _ hx => hx)
            · rename_i c6
              split
              · rename_i c7
                obtain ⟨m3, e3, h3⟩ := tail_tks h (sgn_ne (by rw [c7]; decide))
                exact ⟨(by intro e; cases e), (by intro x u e; injection e with e1 e2; subst e1; subst e2; exact ⟨⟨by have := h3.1; show _ + 1 ≤ m; omega, h3.2⟩, ok_st (by simp) rfl rfl rfl ok_nil_ss ok_nil_ss⟩)⟩
              · rename_i c7
                split
                · rename_i c8
                  exact (S (.try_ (linT ts)) _ _ _ h hm (by simp only [rankG]; omega) trivial).imp ab13 (fun _ hx => hx)
                · rename_i c8
                  split
                  · rename_i c9
                    refine (S (.namedFunction) _ _ _ h hm (by simp only [rankG]; omega) trivial).bind fun x4 u4 m4 e4 h4 q4 => ?_
                    replace e4 : m4 + 1 = m := e4
                    exact PEnds.yes h4 rfl (ok_st (by simp) q4.1.1 q4.2 rfl ok_nil_ss ok_nil_ss)
                  · rename_i c9
                    exact (S (.post (linT ts)) _ _ _ h hm (by simp only [rankG]; omega) trivial).imp ab13 (fun _ hx => hx)
theorem pa_local (line : Nat) (hn : 32 * m + 1 ≤ n + 1) : PEnds (parseF (n + 1) (.local_ line) d ts) m (leastG (.local_ line)) (PostG (.local_ line)) := by
  simp only [parseF]
  refine (want1 h (by decide)).bind fun x1 u1 m1 e1 h1 q1 => ?_
  split
  · rename_i c1
    refine (S (.namedFunction) _ _ _ h1 (by omega) (by simp only [rankG]; omega) trivial).bind fun x2 u2 m2 e2 h2 q2 => ?_
    replace e2 : m2 + 1 = m1 := e2
    exact PEnds.yes h2 rfl (ok_st q2.1.2 rfl q2.2 rfl ok_nil_ss ok_nil_ss)
  · rename_i c1
    refine (name1 h1).bind fun x3 u3 m3 e3 h3 q3 => ?_
    split
    · rename_i c2
      obtain ⟨m4, e4, h4⟩ := tail_tks h3 (sgn_ne (by rw [c2]; decide))
      have H := S (.operation 1) d _ _ h4 (by omega) (by simp only [rankG]; omega) (show 1 ≤ 1 by decide)
      refine (H.bind (f := fun e ts4 => .ok (.st 1 line (textT x3) .nil e .nil .nil .nil) ts4) (K := 0) (Q := PostG (.local_ line)) fun x y m9 e9 h9 q9 => PEnds.yes h9 rfl (ok_st (tx_len q3) rfl q9 rfl ok_nil_ss ok_nil_ss)) |> fun H2 => ?_
      exact ⟨H2.fin, fun x u hx => ⟨⟨by have := (H2.ok x u hx).1.1; show u.length + 0 ≤ _; omega, (H2.ok x u hx).1.2⟩, (H2.ok x u hx).2⟩⟩
    · rename_i c2
      exact PEnds.yes h3 rfl (ok_st (tx_len q3) rfl rfl rfl ok_nil_ss ok_nil_ss)
theorem pa_while (line : Nat) (hn : 32 * m + 1 ≤ n + 1) : PEnds (parseF (n + 1) (.while_ line) d ts) m (leastG (.while_ line)) (PostG (.while_ line)) := by
  simp only [parseF]
  refine (want1 h (by decide)).bind fun x1 u1 m1 e1 h1 q1 => ?_
  refine (S (.operation 1) _ _ _ h1 (by omega) (by simp only [rankG]; omega) (show 1 ≤ 1 by decide)).bind fun x2 u2 m2 e2 h2 q2 => ?_
  replace e2 : m2 + 1 = m1 := e2
  refine (S (.block [100, 111]) _ _ _ h2 (by omega) (by simp only [rankG]; omega) (show ([100, 111] : List UInt8) ≠ [] by decide)).bind fun x3 u3 m3 e3 h3 q3 => ?_
  replace e3 : m3 + 1 = m2 := e3
  refine (want0 h3).bind fun x4 u4 m4 e4 h4 q4 => ?_
  exact PEnds.yes h4 rfl (ok_st (by simp) rfl q2 rfl q3 ok_nil_ss)
theorem pa_count (line : Nat) (hn : 32 * m + 1 ≤ n + 1) : PEnds (parseF (n + 1) (.count line) d ts) m (leastG (.count line)) (PostG (.count line)) := by
  simp only [parseF]
  refine (want1 h (by decide)).bind fun x1 u1 m1 e1 h1 q1 => ?_
  refine (name1 h1).bind fun x2 u2 m2 e2 h2 q2 => ?_
  refine (want0 h2).bind fun x3 u3 m3 e3 h3 q3 => ?_
  refine (S (.operation 1) _ _ _ h3 (by omega) (by simp only [rankG]; omega) (show 1 ≤ 1 by decide)).bind fun x4 u4 m4 e4 h4 q4 => ?_
  replace e4 : m4 + 1 = m3 := e4
  refine (want0 h4).bind fun x5 u5 m5 e5 h5 q5 => ?_
  refine (S (.operation 1) _ _ _ h5 (by omega) (by simp only [rankG]; omega) (show 1 ≤ 1 by decide)).bind fun x6 u6 m6 e6 h6 q6 => ?_
  replace e6 : m6 + 1 = m5 := e6
  refine (S (.block [100, 111]) _ _ _ h6 (by omega) (by simp only [rankG]; omega) (show ([100, 111] : List UInt8) ≠ [] by decide)).bind fun x7 u7 m7 e7 h7 q7 => ?_
  replace e7 : m7 + 1 = m6 := e7
  refine (want0 h7).bind fun x8 u8 m8 e8 h8 q8 => ?_
  exact PEnds.yes h8 rfl (ok_st (tx_len q2) rfl q4 q6 q7 ok_nil_ss)
theorem pa_choice (word : List UInt8) (line : Nat) (hn : 32 * m + 9 ≤ n + 1) : PEnds (parseF (n + 1) (.choice word line) d ts) m (leastG (.choice word line)) (PostG (.choice word line)) := by
  simp only [parseF]
  refine (S (.condition line word) _ _ _ h hm (by simp only [rankG]; omega) trivial).bind fun x1 u1 m1 e1 h1 q1 => ?_
  replace e1 : m1 + 1 = m := e1
  split
  · rename_i c1
    refine (S (.choice [101, 108, 115, 101, 105, 102] (linT u1)) _ _ _ h1 (by omega) (by simp only [rankG]; omega) trivial).bind fun x2 u2 m2 e2 h2 q2 => ?_
    replace e2 : m2 + 1 = m1 := e2
    exact PEnds.yes h2 rfl (with_ok q1 ⟨by simp only [okT, Bool.and_true]; exact q2, by simp only [lenT]; omega⟩)
  · rename_i c1
    split
    · rename_i c2
      refine (S (.block [101, 108, 115, 101]) _ _ _ h1 (by omega) (by simp only [rankG]; omega) (show ([101, 108, 115, 101] : List UInt8) ≠ [] by decide)).bind fun x3 u3 m3 e3 h3 q3 => ?_
      replace e3 : m3 + 1 = m1 := e3
      refine (want0 h3).bind fun x4 u4 m4 e4 h4 q4 => ?_
      exact PEnds.yes h4 rfl (with_ok q1 q3)
    · rename_i c2
      refine (want0 h1).bind fun x5 u5 m5 e5 h5 q5 => ?_
      exact PEnds.yes h5 rfl (q1)
theorem pa_condition (line : Nat) (word : List UInt8) (hn : 32 * m + 8 ≤ n + 1) : PEnds (parseF (n + 1) (.condition line word) d ts) m (leastG (.condition line word)) (PostG (.condition line word)) := by
  simp only [parseF]
  refine (want0 h).bind fun x1 u1 m1 e1 h1 q1 => ?_
  refine (S (.operation 1) _ _ _ h1 (by omega) (by simp only [rankG]; omega) (show 1 ≤ 1 by decide)).bind fun x2 u2 m2 e2 h2 q2 => ?_
  replace e2 : m2 + 1 = m1 := e2
  refine (S (.block [116, 104, 101, 110]) _ _ _ h2 (by omega) (by simp only [rankG]; omega) (show ([116, 104, 101, 110] : List UInt8) ≠ [] by decide)).bind fun x3 u3 m3 e3 h3 q3 => ?_
  replace e3 : m3 + 1 = m2 := e3
  exact PEnds.yes h3 rfl (ok_st (by simp) rfl q2 rfl q3 ok_nil_ss)
theorem pa_result (line : Nat) (hn : 32 * m + 1 ≤ n + 1) : PEnds (parseF (n + 1) (.result line) d ts) m (leastG (.result line)) (PostG (.result line)) := by
  simp only [parseF]
  refine (want1 h (by decide)).bind fun x1 u1 m1 e1 h1 q1 => ?_
  split
  · rename_i c1
    exact PEnds.yes h1 rfl (ok_st (by simp) rfl rfl rfl ok_nil_ss ok_nil_ss)
  · rename_i c1
    refine (S (.operation 1) _ _ _ h1 (by omega) (by simp only [rankG]; omega) (show 1 ≤ 1 by decide)).bind fun x2 u2 m2 e2 h2 q2 => ?_
    replace e2 : m2 + 1 = m1 := e2
    exact PEnds.yes h2 rfl (ok_st (by simp) rfl q2 rfl ok_nil_ss ok_nil_ss)
theorem pa_try (line : Nat) (hn : 32 * m + 2 ≤ n + 1) : PEnds (parseF (n + 1) (.try_ line) d ts) m (leastG (.try_ line)) (PostG (.try_ line)) := by
  simp only [parseF]
  refine (S (.block [116, 114, 121]) _ _ _ h hm (by simp only [rankG]; omega) (show ([116, 114, 121] : List UInt8) ≠ [] by decide)).bind fun x1 u1 m1 e1 h1 q1 => ?_
  replace e1 : m1 + 1 = m := e1
  refine (begin1 h1 (by decide)).bind fun x2 u2 m2 e2 h2 q2 => ?_
  refine (name1 h2).bind fun x3 u3 m3 e3 h3 q3 => ?_
  refine (S (.stmts) _ _ _ h3 (by omega) (by simp only [rankG]; omega) trivial).bind fun x4 u4 m4 e4 h4 q4 => ?_
  replace e4 : m4 + 0 = m3 := e4
  refine (want0 h4).bind fun x5 u5 m5 e5 h5 q5 => ?_
  exact PEnds.yes h5 rfl (ok_st (tx_len q3) rfl rfl rfl q1 q4)
theorem pa_post (line : Nat) (hn : 32 * m + 6 ≤ n + 1) : PEnds (parseF (n + 1) (.post line) d ts) m (leastG (.post line)) (PostG (.post line)) := by
  simp only [parseF]
  refine (S (.postExpr) _ _ _ h hm (by simp only [rankG]; omega) trivial).bind fun x1 u1 m1 e1 h1 q1 => ?_
  replace e1 : m1 + 1 = m := e1
  split
  · rename_i c1
    exact PEnds.bad
  · rename_i c1
    split
    · rename_i c2
      exact PEnds.yes h1 rfl (ok_st (by simp) rfl q1 rfl ok_nil_ss ok_nil_ss)
    · rename_i c2
      split
      · rename_i c3
        refine (want0 h1).bind fun x2 u2 m2 e2 h2 q2 => ?_
        refine (S (.operation 1) _ _ _ h2 (by omega) (by simp only [rankG]; omega) (show 1 ≤ 1 by decide)).bind fun x3 u3 m3 e3 h3 q3 => ?_
        replace e3 : m3 + 1 = m2 := e3
        exact PEnds.yes h3 rfl (ok_st (by simp) q1 q3 rfl ok_nil_ss ok_nil_ss)
      · rename_i c3
        exact PEnds.bad
end
theorem pall : ∀ n, PAll n
  | 0 => fun g d ts m h hm hn hp => by
    exfalso
    cases g <;> (simp only [rankG] at hn; omega)
  | n + 1 => fun g d ts m h hm hn hp => by
    have S := pall n
    cases g with
    | operation a => exact pa_operation S h hm a hn hp
    | opLoop a b => exact pa_opLoop S h hm a b hn hp
    | behind a => exact pa_behind S h hm a hn hp
    | operand => exact pa_operand S h hm hn
    | postExpr => exact pa_postExpr S h hm hn
    | postLoop a b => exact pa_postLoop S h hm a b hn hp
    | list a b c => exact pa_list S h hm a b c hn hp
    | listLoop a b c => exact pa_listLoop S h hm a b c hn hp
    | one a => exact pa_one S h hm a hn
    | primary => exact pa_primary S h hm hn
    | enclosed a b => exact pa_enclosed S h hm a b hn hp
    | function => exact pa_function S h hm hn
    | namedFunction => exact pa_namedFunction S h hm hn
    | body a => exact pa_body S h hm a hn
    | table => exact pa_table S h hm hn
    | item => exact pa_item S h hm hn
    | block a => exact pa_block S h hm a hn hp
    | stmts => exact pa_stmts S h hm hn
    | stmtsLoop a => exact pa_stmtsLoop S h hm a hn hp
    | stmt => exact pa_stmt S h hm hn
    | local_ a => exact pa_local S h hm a hn
    | while_ a => exact pa_while S h hm a hn
    | count a => exact pa_count S h hm a hn
    | choice a b => exact pa_choice S h hm a b hn
    | condition a b => exact pa_condition S h hm a b hn
    | result a => exact pa_result S h hm a hn
    | try_ a => exact pa_try S h hm a hn
    | post a => exact pa_post S h hm a hn
end Go.Proofs.YtoggkigfijgbfaaGreatDoor.P6
namespace Go.Proofs.YtoggkigfijgbfaaGreatDoor.P6
set_option maxRecDepth 20000

theorem eqT_comm (a : Tree) : ∀ b, eqT a b = eqT b a := by
  induction a with
  | nil => intro b; cases b <;> rfl
  | tx s =>
    intro b
    cases b with
    | tx t => simp only [eqT]; exact BEq.comm
    | _ => rfl
  | cons h t ih it =>
    intro b
    cases b with
    | cons h' t' => simp only [eqT]; rw [ih h', it t']
    | _ => rfl
  | ex k l n s x y ks xs ps bd i1 i2 i3 i4 i5 i6 =>
    intro b
    cases b with
    | ex k' l' n' s' x' y' ks' xs' ps' bd' => simp only [eqT]; rw [i1 x', i2 y', i3 ks', i4 xs', i5 ps', i6 bd', BEq.comm (a := k) (b := k'), BEq.comm (a := n) (b := n'), BEq.comm (a := s) (b := s')]
    | _ => rfl
  | st k l s x y z u v i1 i2 i3 i4 i5 =>
    intro b
    cases b with
    | st k' l' s' x' y' z' u' v' => simp only [eqT]; rw [i1 x', i2 y', i3 z', i4 u', i5 v', BEq.comm (a := k) (b := k'), BEq.comm (a := s) (b := s')]
    | _ => rfl
theorem eqT_size (a : Tree) : ∀ b, eqT a b = true → sizeT a = sizeT b := by
  induction a with
  | nil => intro b h; cases b <;> first | rfl | cases h
  | tx s => intro b h; cases b <;> first | rfl | cases h
  | cons h t ih it =>
    intro b e
    cases b with
    | cons h' t' =>
      simp only [eqT, Bool.and_eq_true] at e
      simp only [sizeT, ih h' e.1, it t' e.2]
    | _ => cases e
  | ex k l n s x y ks xs ps bd i1 i2 i3 i4 i5 i6 =>
    intro b e
    cases b with
    | ex k' l' n' s' x' y' ks' xs' ps' bd' =>
      simp only [eqT, Bool.and_eq_true] at e
      obtain ⟨_, _, _, e1, e2, e3, e4, _, e6⟩ := e
      simp only [sizeT, i1 x' e1, i2 y' e2, i3 ks' e3, i4 xs' e4, i6 bd' e6]
    | _ => cases e
  | st k l s x y z u v i1 i2 i3 i4 i5 =>
    intro b e
    cases b with
    | st k' l' s' x' y' z' u' v' =>
      simp only [eqT, Bool.and_eq_true] at e
      obtain ⟨_, _, e1, e2, e3, e4, e5⟩ := e
      simp only [sizeT, i1 x' e1, i2 y' e2, i3 z' e3, i4 u' e4, i5 v' e5]
    | _ => cases e
theorem eqT_refl (a : Tree) : eqT a a = true := by
  induction a with
  | nil => rfl
  | tx s => simp [eqT]
  | cons h t ih it => simp only [eqT, ih, it]; rfl
  | ex k l n s x y ks xs ps bd i1 i2 i3 i4 i5 i6 => simp only [eqT, i1, i2, i3, i4, i5, i6, beq_self_eq_true]; rfl
  | st k l s x y z u v i1 i2 i3 i4 i5 => simp only [eqT, i1, i2, i3, i4, i5, beq_self_eq_true]; rfl

/-- The call comes to its end; what is wrong is a statement that is none, or that it is too long. -/
def Fin (r : WRes) : Prop := match r with
  | .out => False
  | .bad c => c = 2 ∨ c = 3
  | .ok _ _ => True
theorem Fin.ok {s : List UInt8} {k : Nat} : Fin (.ok s k) := trivial
theorem Fin.bad {c : Int} (h : c = 2 ∨ c = 3 := by decide) : Fin (.bad c) := h
theorem Fin.bind {r : WRes} {f : List UInt8 → Nat → WRes} (h : Fin r) (hf : ∀ s k, Fin (f s k)) : Fin (r.bind f) := by
  cases r with
  | out => exact h.elim
  | bad c => exact h
  | ok s k => exact hf s k
theorem Fin.ite {c : Prop} [Decidable c] {a b : WRes} (ha : c → Fin a) (hb : ¬ c → Fin b) : Fin (if c then a else b) := by
  by_cases h : c
  · rw [if_pos h]; exact ha h
  · rw [if_neg h]; exact hb h
theorem fin_put (t s : List UInt8) (k : Nat) : Fin (putT t s k) := Fin.ite (fun _ => Fin.bad) (fun _ => Fin.ok)
theorem fin_puts : ∀ (l : List (List UInt8)) (s : List UInt8) (k : Nat), Fin (putsT l s k)
  | [], _, _ => Fin.ok
  | t :: r, s, k => (fin_put t s k).bind (fin_puts r)
theorem fin_beg (s : List UInt8) (k : Nat) : Fin (begT s k) := Fin.ite (fun _ => Fin.bad) (fun _ => Fin.ok)
theorem fin_enc {a b : List UInt8} {f : List UInt8 → Nat → WRes} (hf : ∀ s k, Fin (f s k)) (s : List UInt8) (k : Nat) : Fin (encT a b f s k) := (fin_put a s k).bind fun s k => (hf s k).bind (fin_put b)
theorem fin_loop {f : Nat → List UInt8 → Nat → WRes} (hf : ∀ i s k, Fin (f i s k)) : ∀ (n i : Nat) (s : List UInt8) (k : Nat), Fin (loopT f i n s k)
  | 0, _, _, _ => Fin.ok
  | n + 1, i, s, k => Fin.bind (Fin.ite (fun _ => Fin.ok) (fun _ => fin_put _ s k)) fun s k => (hf i s k).bind (fin_loop hf n (i + 1))
theorem fin_seq {f : Nat → List UInt8 → Nat → WRes} (hf : ∀ i s k, Fin (f i s k)) : ∀ (n i : Nat) (s : List UInt8) (k : Nat), Fin (seqT f i n s k)
  | 0, _, _, _ => Fin.ok
  | n + 1, i, s, k => (hf i s k).bind (fin_seq hf n (i + 1))

def dW : WGoal → Nat
  | .expr e => depthT e
  | .operand e _ => depthT e
  | .post e => depthT e
  | .operation e => depthT e
  | .index e => depthT e
  | .item key e => max (depthT key) (depthT e)
  | .body f => depthT f
  | .stmts b => depthT b
  | .block b => depthT b
  | .stmt s => depthT s
  | .value _ e => depthT e
  | .blocks s => depthT s
  | .choice s => depthT s
  | .named s => depthT s
def rW : WGoal → Nat
  | .expr _ => 2
  | .operand _ _ => 3
  | .post _ => 4
  | .operation _ => 1
  | .index _ => 3
  | .item _ _ => 3
  | .body _ => 1
  | .stmts _ => 4
  | .block _ => 5
  | .stmt _ => 3
  | .value _ _ => 3
  | .blocks _ => 2
  | .choice _ => 1
  | .named _ => 1
def preW : WGoal → Prop
  | .operation e => isX e = true
  | .body f => isX f = true
  | .blocks s => isS s = true
  | .choice s => isS s = true
  | .named s => isS s = true
  | _ => True
theorem deep_ex {t : Tree} (h : isX t = true) : depthT (leftT t) + 1 ≤ depthT t ∧ depthT (rightT t) + 1 ≤ depthT t ∧ depthT (keysT t) + 1 ≤ depthT t ∧ depthT (argsT t) + 1 ≤ depthT t ∧ depthT (bodyT t) + 1 ≤ depthT t := by
  cases t <;> first | cases h | skip
  simp only [depthT, leftT, rightT, keysT, argsT, bodyT]; omega
theorem deep_st {t : Tree} (h : isS t = true) : depthT (leftT t) + 1 ≤ depthT t ∧ depthT (rightT t) + 1 ≤ depthT t ∧ depthT (toT t) + 1 ≤ depthT t ∧ depthT (aT t) + 1 ≤ depthT t ∧ depthT (bT t) + 1 ≤ depthT t := by
  cases t <;> first | cases h | skip
  simp only [depthT, leftT, rightT, toT, aT, bT]; omega
theorem bad_x {e : Tree} (h : ¬ badE e = true) : isX e = true := by
  unfold badE at h
  simp only [Bool.or_eq_true, not_or] at h
  simpa using h.1
theorem isOf_x {e : Tree} {k : Int} (h : isOf e k = true) : isX e = true := by
  unfold isOf at h
  simp only [Bool.and_eq_true] at h
  exact h.1
/-- So much fuel is enough. -/
theorem print_fin : ∀ (n : Nat) (g : WGoal) (s : List UInt8) (k : Nat), preW g → 8 * dW g + rW g ≤ n → Fin (printF n g s k)
  | 0, g, _, _, _, h => by
    exfalso
    cases g <;> (simp only [rW] at h; omega)
  | n + 1, g, s, k, hp, h => by
    have ih := print_fin n
    cases g with
    | expr e =>
      simp only [dW, rW] at h
      simp only [printF]
      refine Fin.ite (fun _ => Fin.bad) fun hb => ?_
      have hx := bad_x hb
      have hd := deep_ex hx
      refine (fin_beg s k).bind fun s k => ?_
      refine Fin.ite (fun _ => fin_put _ s k) fun _ => ?_
      refine Fin.ite (fun _ => fin_put _ s k) fun _ => ?_
      refine Fin.ite (fun _ => fin_put _ s k) fun _ => ?_
      refine Fin.ite (fun _ => fin_put _ s k) fun _ => ?_
      refine Fin.ite (fun _ => fin_put _ s k) fun _ => ?_
      refine Fin.ite (fun _ => fin_put _ s k) fun _ => ?_
      refine Fin.ite (fun _ => (ih _ s k (by exact trivial) ab15).bind fun s k => ih _ s k (by exact trivial) ab15) fun _ => ?_
      refine Fin.ite (fun _ => (ih _ s k (by exact trivial) ab15).bind fun s k => fin_enc (fun s k => fin_loop (fun i s k => ih _ s k (by exact trivial) (by have := depth_get (argsT e) i; simp only [dW, rW]; omega)) _ _ s k) s k) fun _ => ?_
      refine Fin.ite (fun _ => (fin_put _ s k).bind fun s k => ih _ s k (by exact hx) ab15) fun _ => ?_
      refine Fin.ite (fun _ => (fin_puts _ s k).bind fun s k => ih _ s k (by exact trivial) ab15) fun _ => ?_
      refine Fin.ite (fun _ => ih _ s k (by exact hx) ab15) fun _ => ?_
      exact fin_enc (fun s k => fin_loop (fun i s k => ih _ s k (by exact trivial) (by have := depth_get (argsT e) i; have := depth_get (keysT e) i; simp only [dW, rW]; omega)) _ _ s k) s k
    | operand e needs =>
      simp only [dW, rW] at h
      simp only [printF]
      exact Fin.ite (fun _ => fin_enc (fun s k => ih _ s k (by exact trivial) ab15) s k) fun _ => ih _ s k (by exact trivial) ab15
    | post e =>
      simp only [dW, rW] at h
      simp only [printF]
      exact ih _ s k (by exact trivial) ab15
    | operation e =>
      simp only [dW, rW] at h
      have hd := deep_ex hp
      simp only [printF]
      exact (ih _ s k (by exact trivial) ab15).bind fun s k => (fin_puts _ s k).bind fun s k => ih _ s k (by exact trivial) ab15
    | index e =>
      simp only [dW, rW] at h
      simp only [printF]
      exact Fin.ite (fun _ => (fin_beg s k).bind (fin_puts _)) fun _ => fin_enc (fun s k => ih _ s k (by exact trivial) ab15) s k
    | item key e =>
      simp only [dW, rW] at h
      simp only [printF]
      refine Fin.bind ?_ fun s k => ih _ s k (by exact trivial) ab15
      refine Fin.ite (fun _ => Fin.ok) fun _ => ?_
      refine Fin.ite (fun _ => (fin_beg s k).bind (fin_puts _)) fun _ => ?_
      exact (fin_enc (fun s k => ih _ s k (by exact trivial) ab15) s k).bind (fin_put _)
    | body f =>
      simp only [dW, rW] at h
      have hd := deep_ex hp
      simp only [printF]
      exact (fin_enc (fun s k => fin_loop (fun i s k => fin_put _ s k) _ _ s k) s k).bind fun s k => (ih _ s k (by exact trivial) ab15).bind (fin_put _)
    | stmts b =>
      simp only [dW, rW] at h
      simp only [printF]
      exact fin_seq (fun i s k => (ih _ s k (by exact trivial) (by have := depth_get b i; simp only [dW, rW]; omega)).bind (fin_put _)) _ _ s k
    | block b =>
      simp only [dW, rW] at h
      simp only [printF]
      exact (fin_put _ s k).bind fun s k => ih _ s k (by exact trivial) ab15
    | stmt x =>
      simp only [dW, rW] at h
      simp only [printF]
      refine Fin.ite (fun _ => Fin.bad) fun hb => ?_
      simp only [not_or, Bool.not_eq_false] at hb
      have hx := hb.1
      have hd := deep_st hx
      refine (fin_beg s k).bind fun s k => ?_
      refine Fin.ite (fun _ => (fin_puts _ s k).bind fun s k => ih _ s k (by exact trivial) ab15) fun _ => ?_
      refine Fin.ite (fun _ => (ih _ s k (by exact trivial) ab15).bind fun s k => (fin_put _ s k).bind fun s k => ih _ s k (by exact trivial) ab15) fun _ => ?_
      refine Fin.ite (fun _ => ih _ s k (by exact trivial) ab15) fun _ => ?_
      refine Fin.ite (fun _ => (fin_put _ s k).bind fun s k => ih _ s k (by exact trivial) ab15) fun _ => ?_
      refine Fin.ite (fun _ => fin_put _ s k) fun _ => ?_
      refine Fin.ite (fun _ => ih _ s k (by exact hx) ab15) fun _ => ?_
      exact (ih _ s k (by exact hx) ab15).bind (fin_put _)
    | value ahead e =>
      simp only [dW, rW] at h
      simp only [printF]
      exact Fin.ite (fun _ => (fin_put _ s k).bind fun s k => ih _ s k (by exact trivial) ab15) fun _ => Fin.ok
    | blocks x =>
      simp only [dW, rW] at h
      have hd := deep_st hp
      simp only [printF]
      refine Fin.ite (fun _ => (fin_put _ s k).bind fun s k => ih _ s k (by exact trivial) ab15) fun _ => ?_
      refine Fin.ite (fun _ => (fin_put _ s k).bind fun s k => (ih _ s k (by exact trivial) ab15).bind fun s k => (fin_put _ s k).bind fun s k => ih _ s k (by exact trivial) ab15) fun _ => ?_
      refine Fin.ite (fun _ => (fin_put _ s k).bind fun s k => ih _ s k (by exact hp) ab15) fun _ => ?_
      refine Fin.ite (fun _ => (fin_puts _ s k).bind fun s k => (ih _ s k (by exact trivial) ab15).bind fun s k => (fin_put _ s k).bind fun s k => (ih _ s k (by exact trivial) ab15).bind fun s k => (fin_put _ s k).bind fun s k => ih _ s k (by exact trivial) ab15) fun _ => ?_
      exact (fin_put _ s k).bind fun s k => (ih _ s k (by exact trivial) ab15).bind fun s k => (fin_puts _ s k).bind fun s k => ih _ s k (by exact trivial) ab15
    | choice x =>
      simp only [dW, rW] at h
      have hd := deep_st hp
      have hg := depth_get (bT x) 0
      simp only [printF]
      refine (fin_put _ s k).bind fun s k => (ih _ s k (by exact trivial) ab15).bind fun s k => (fin_put _ s k).bind fun s k => (ih _ s k (by exact trivial) ab15).bind fun s k => ?_
      refine Fin.ite (fun _ => Fin.ok) fun _ => ?_
      exact Fin.ite (fun hc => (fin_beg s k).bind fun s k => (fin_put _ s k).bind fun s k => ih _ s k (by exact hc.2.1) ab15) fun _ => (fin_put _ s k).bind fun s k => ih _ s k (by exact trivial) ab15
    | named x =>
      simp only [dW, rW] at h
      have hd := deep_st hp
      simp only [printF]
      refine (fin_puts _ s k).bind fun s k => ?_
      exact Fin.ite (fun hc => (fin_beg s k).bind fun s k => ih _ s k (by exact isOf_x hc) ab15) fun _ => Fin.bad
/-- The text of statements, whatever they are. -/
def textF (t : Tree) : WRes := printF (8 * depthT t + 4) (.stmts t) [] 0
theorem text_fin (t : Tree) : Fin (textF t) := print_fin _ _ _ _ trivial ab15
/-- A token's number is one of 64 bits. -/
theorem word_num (t : List UInt8) : -9223372036854775808 ≤ (wordL t).num ∧ (wordL t).num ≤ 9223372036854775807 := by
  unfold wordL readW
  split
  · unfold nameW
    split <;> exact num0
  · split
    · unfold intW
      split
      · exact parseV_bounds
      · exact num0
    · split
      · unfold strW
        split <;> exact num0
      · unfold signW
        split <;> exact num0
theorem lexed_num : ∀ (n : Nat) (u : List UInt8) (l : Nat), u.length ≤ n → ∀ t, t ∈ (tokL u l).toks → -9223372036854775808 ≤ t.num ∧ t.num ≤ 9223372036854775807 := by
  intro n
  have nil : ∀ (l : Nat), ∀ t, t ∈ (tokL [] l).toks → -9223372036854775808 ≤ t.num ∧ t.num ≤ 9223372036854775807 := by
    intro l t h
    rw [tokL_nil] at h
    rcases List.mem_singleton.1 h with rfl
    exact num0
  induction n with
  | zero =>
    intro u l hu
    obtain rfl : u = [] := List.length_eq_zero_iff.1 (by omega)
    exact nil l
  | succ n ih =>
    intro u l hu
    by_cases hne : u = []
    · subst hne; exact nil l
    by_cases h0 : kindL u = 0
    · rw [tokL_blank l h0]
      have hp := blanks_pos h0
      exact ih _ _ (by rw [List.length_drop]; omega)
    by_cases he : (wordL u).err = 0
    · rw [tokL_word l hne h0 he]
      have hp := word_pos hne h0 he
      have H := ih (u.drop (wordL u).size) l (by rw [List.length_drop]; omega)
      intro t ht
      unfold pushL at ht
      split at ht
      · rcases List.mem_cons.1 ht with rfl | ht
        · exact word_num u
        · exact H t ht
      · exact H t ht
    · rw [tokL_bad l hne h0 he]
      intro t ht
      cases ht
theorem lex_toks {u : List UInt8} (h : (lexL u).err = 0) : Tks 32769 (lexL u).toks := by
  have hn : ∀ t, t ∈ (lexL u).toks → -9223372036854775808 ≤ t.num ∧ t.num ≤ 9223372036854775807 := by
    unfold lexL
    split
    · intro t ht; cases ht
    · exact lexed_num _ u 0 (Nat.le_refl _)
  cases hl : lexL u with
  | mk ts e m =>
    rw [hl] at h hn
    obtain rfl : e = 0 := h
    obtain ⟨_, b, c⟩ := P5.lex_wf hl
    exact ⟨b, fun t ht => ⟨c t ht, hn t ht⟩⟩
/-- What a source gives: it ends; its statements are trees as statements have them. -/
def readF (t : List UInt8) : Res := P5.sourceF 1100000 t
theorem read_ends (t : List UInt8) : readF t ≠ .out ∧ ∀ x ts, readF t = .ok x ts → okT .ss x = true ∧ lenT x ≤ 1048576 := by
  unfold readF P5.sourceF
  split
  · rename_i he
    have H := pall 1100000 .stmts 0 _ _ (lex_toks he) (by omega) (by simp only [rankG]; omega) (by exact trivial)
    generalize parseF 1100000 .stmts 0 (lexL t).toks = r at H
    cases r with
    | out => exact absurd rfl H.fin
    | bad c l => exact ⟨(by intro h; cases h), (by intro x ts h; cases h)⟩
    | ok x u =>
      have Q := (H.ok x u rfl).2
      show (if _ then _ else _) ≠ _ ∧ _
      refine ⟨?_, ?_⟩
      · split <;> (intro h; cases h)
      · intro y ts h
        change (if _ then _ else _) = _ at h
        split at h
        · injection h with h1 h2
          subst h1
          exact Q
        · cases h
  · exact ⟨(by intro h; cases h), (by intro x ts h; cases h)⟩
end Go.Proofs.YtoggkigfijgbfaaGreatDoor.P6
