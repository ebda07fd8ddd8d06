/- QuoteMath: Quoted texts as plain functions on lists of bytes: which byte stands itself, escapes, a string's text, what a text is read as; and that what is quoted is read as it was. No walk, no program. | QuoteMaps: The two maps of quote: a map that reads as a plain function from bytes to bytes; the contracts of lettersOfBytes and bytesOfLetters (which is made of the other, in whatever order the range tells its entries). | QuoteBytes: quote.bytesOfLetters: the map of the letters, turned round, whatever order the range tells its entries in. | QuoteWrite: The contracts of quote.standsItself, write and Quote: a string's text. | QuoteRead: The contracts of quote.digit, escaped, first and Unquote: what a text is read as. | QuoteUnq: The contracts of quote.first and Unquote: what a text is read as, or refused. | QuoteRefQ: The document's own texts (tallowref03): the contracts of digit and Quote. | QuoteRefR: The document's own reading (tallowref03): the contracts of One and Unquote. | QuoteRefU: The document's own reading of a text (tallowref03.Unquote). -/
import Derived.Test.YtoggkigfijgbfaaGreatDoorZA
import Derived.Maps.RangeWalk
import Derived.Maps.OwnSet
import Derived.WalkMore
import Derived.ScopeJumps
import Derived.Deep.QuietTactic
import Derived.OwnWalk
import Derived.Laws.OwnMore
namespace Go.Proofs.YtoggkigfijgbfaaGreatDoor
set_option maxRecDepth 20000

def selfB (c : UInt8) : Bool := decide (32 ≤ c.toNat) && decide (c.toNat ≤ 126) && !(c.toNat == 34) && !(c.toNat == 92)
def letterO (c : UInt8) : Option UInt8 := if c = 10 then some 110 else if c = 9 then some 116 else if c = 92 then some 92 else if c = 34 then some 34 else none
def byteO (l : UInt8) : Option UInt8 := if l = 110 then some 10 else if l = 116 then some 9 else if l = 92 then some 92 else if l = 34 then some 34 else none
def hexB (n : Nat) : UInt8 := if n < 10 then UInt8.ofNat (48 + n) else UInt8.ofNat (87 + n)
def hexO (c : UInt8) : Option Nat := if 48 ≤ c.toNat ∧ c.toNat ≤ 57 then some (c.toNat - 48) else if 97 ≤ c.toNat ∧ c.toNat ≤ 102 then some (c.toNat - 87) else none
def escL (c : UInt8) : List UInt8 :=
  if selfB c then [c] else match letterO c with
    | some l => [92, l]
    | none => [92, 120, hexB (c.toNat / 16), hexB (c.toNat % 16)]
def bodyL (s : List UInt8) : List UInt8 := s.flatMap escL
def quoteL (s : List UInt8) : List UInt8 := 34 :: (bodyL s ++ [34])
/-- What a text begins with: the byte, and how many bytes of the text it takes. -/
def hex2 (h l : UInt8) : Option (UInt8 × Nat) := match hexO h, hexO l with
  | some a, some b => some (UInt8.ofNat (16 * a + b), 4)
  | _, _ => none
def hexL : List UInt8 → Option (UInt8 × Nat)
  | h :: l :: _ => hex2 h l
  | _ => none
def afterL : List UInt8 → Option (UInt8 × Nat)
  | [] => none
  | d :: r => match byteO d with
    | some b => some (b, 2)
    | none => if d = 120 then hexL r else none
theorem hexL_short : ∀ {r : List UInt8}, r.length < 2 → hexL r = none
  | [], _ => rfl
  | [_], _ => rfl
  | _ :: _ :: _, h => by simp at h; omega
theorem hexL_at : ∀ {r : List UInt8} {x y : UInt8}, r[0]? = some x → r[1]? = some y → hexL r = hex2 x y
  | [], _, _, h, _ => by simp at h
  | [_], _, _, _, h => by simp at h
  | a :: b :: r, x, y, h, g => by simp at h g; subst h; subst g; rfl
def oneL : List UInt8 → Option (UInt8 × Nat)
  | [] => none
  | c :: r => if c = 92 then afterL r else if selfB c then some (c, 1) else none
def readF : Nat → List UInt8 → Option (List UInt8)
  | _, [] => some []
  | 0, _ :: _ => none
  | f + 1, c :: r => match oneL (c :: r) with
    | none => none
    | some (b, n) => (readF f ((c :: r).drop n)).map (b :: ·)
def readL (t : List UInt8) : Option (List UInt8) := readF t.length t
/-- What lies between the two quotes; none, if the text does not begin and end with one. -/
def midL (q : List UInt8) : Option (List UInt8) :=
  if 2 ≤ q.length ∧ q.head? = some 34 ∧ q.getLast? = some 34 then some ((q.drop 1).take (q.length - 2)) else none
def gotL (r : Option (List UInt8)) : List UInt8 × Int := match r with
  | none => ([], 4)
  | some s => if 4096 < s.length then ([], 3) else (s, 0)
def unqL (q : List UInt8) : List UInt8 × Int := gotL ((midL q).bind readL)

theorem oneL_pos {t : List UInt8} {b : UInt8} {n : Nat} (h : oneL t = some (b, n)) : 1 ≤ n ∧ n ≤ t.length ∧ n ≤ 4 := by
  match t, h with
  | c :: r, h =>
    simp only [oneL] at h
    split at h
    · match r, h with
      | d :: r, h =>
        simp only [afterL] at h
        split at h
        · cases h; simp
        · split at h
          · match r, h with
            | x :: y :: r, h =>
              simp only [hexL, hex2] at h
              split at h
              · cases h; simp
              · cases h
          · cases h
    · split at h
      · cases h; simp
      · cases h
theorem readF_nil (f : Nat) : readF f [] = some [] := by cases f <;> rfl
theorem readF_more : ∀ (f : Nat) (t : List UInt8), t.length ≤ f → readF f t = readF t.length t := by
  intro f
  induction f using Nat.strongRecOn with
  | _ f ih =>
    intro t ht
    match f, t, ht with
    | f, [], _ => rw [readF_nil, readF_nil]
    | f + 1, c :: r, ht =>
      simp only [List.length_cons, readF]
      cases ho : oneL (c :: r) with
      | none => rfl
      | some x =>
        obtain ⟨b, n⟩ := x
        have hp := oneL_pos ho
        have hl : ((c :: r).drop n).length ≤ r.length := by rw [List.length_drop, List.length_cons]; omega
        simp only [List.length_cons] at ht
        simp only []
        rw [ih f (by omega) _ (by omega)]
        rcases Nat.lt_or_ge r.length (f + 1) with h | h
        · rw [ih r.length (by omega) _ hl]
        · omega
theorem readL_nil : readL [] = some [] := rfl
theorem readL_none {t : List UInt8} (hne : t ≠ []) (h : oneL t = none) : readL t = none := by
  match t, hne with
  | c :: r, _ => unfold readL; rw [List.length_cons, readF, h]
theorem readL_some {t : List UInt8} {b : UInt8} {n : Nat} (h : oneL t = some (b, n)) : readL t = (readL (t.drop n)).map (b :: ·) := by
  match t, h with
  | c :: r, h =>
    have hp := oneL_pos h
    unfold readL
    rw [List.length_cons, readF, h]
    simp only []
    rw [readF_more r.length _ (by rw [List.length_drop, List.length_cons]; omega)]
/-- One byte's text is read as that byte. -/
theorem hexO_hexB (n : Nat) (h : n < 16) : hexO (hexB n) = some n := by
  have : n = 0 ∨ n = 1 ∨ n = 2 ∨ n = 3 ∨ n = 4 ∨ n = 5 ∨ n = 6 ∨ n = 7 ∨ n = 8 ∨ n = 9 ∨ n = 10 ∨ n = 11 ∨ n = 12 ∨ n = 13 ∨ n = 14 ∨ n = 15 := by omega
  rcases this with rfl | rfl | rfl | rfl | rfl | rfl | rfl | rfl | rfl | rfl | rfl | rfl | rfl | rfl | rfl | rfl <;> decide
theorem letter_byte {c l : UInt8} (h : letterO c = some l) : byteO l = some c := by
  unfold letterO at h
  split at h
  · cases h; subst_vars; decide
  · split at h
    · cases h; subst_vars; decide
    · split at h
      · cases h; subst_vars; decide
      · split at h
        · cases h; subst_vars; decide
        · cases h
theorem byte_letter {c l : UInt8} (h : byteO l = some c) : letterO c = some l := by
  unfold byteO at h
  split at h
  · cases h; subst_vars; decide
  · split at h
    · cases h; subst_vars; decide
    · split at h
      · cases h; subst_vars; decide
      · split at h
        · cases h; subst_vars; decide
        · cases h
theorem self_ne {c : UInt8} (h : selfB c = true) : c ≠ 92 ∧ c ≠ 34 := by
  constructor <;> (rintro rfl; revert h; decide)
theorem one_esc (c : UInt8) (r : List UInt8) : oneL (escL c ++ r) = some (c, (escL c).length) := by
  unfold escL
  cases hs : selfB c with
  | true => simp [oneL, self_ne hs, hs]
  | false =>
    simp only [Bool.false_eq_true, if_false]
    cases hl : letterO c with
    | some l => simp [oneL, afterL, letter_byte hl]
    | none =>
      have h1 : c.toNat < 256 := c.toNat_lt
      have e1 := hexO_hexB (c.toNat / 16) (by omega)
      have e2 := hexO_hexB (c.toNat % 16) (by omega)
      have e3 : UInt8.ofNat (16 * (c.toNat / 16) + c.toNat % 16) = c := by rw [Nat.div_add_mod]; simp
      simp [oneL, afterL, show byteO 120 = none by decide, hexL, hex2, e1, e2, e3]
theorem esc_length (c : UInt8) : 1 ≤ (escL c).length ∧ (escL c).length ≤ 4 := by
  unfold escL; split
  · simp
  · split <;> simp
theorem read_body : ∀ s : List UInt8, readL (bodyL s) = some s
  | [] => rfl
  | c :: s => by
    unfold bodyL
    rw [List.flatMap_cons, readL_some (one_esc c _), List.drop_left']
    · have := read_body s
      unfold bodyL at this
      rw [this]; rfl
    · rfl
theorem body_length (s : List UInt8) : (bodyL s).length ≤ 4 * s.length := by
  induction s with
  | nil => simp [bodyL]
  | cons c s ih =>
    unfold bodyL at *
    rw [List.flatMap_cons, List.length_append, List.length_cons]
    have := esc_length c
    omega
theorem body_append (a b : List UInt8) : bodyL (a ++ b) = bodyL a ++ bodyL b := by unfold bodyL; rw [List.flatMap_append]
end Go.Proofs.YtoggkigfijgbfaaGreatDoor
namespace Go.Proofs.YtoggkigfijgbfaaGreatDoor
set_option maxRecDepth 20000
open Go.RowKit Go.Maps

theorem keyed : Keyed Tryz.prog 5 := int_keyed Tryz.underlying5
theorem zeroByte (w : World) : (zeroValue 5).run Tryz.prog w = .ok (.int .u8 0) w := by kernel_rfl
abbrev kB (x : UInt8) : Lit := .int .u8 x.toNat
abbrev vB (x : UInt8) : DataW Unit := .lit (.int .u8 x.toNat)
theorem wf_byte (x : UInt8) : (Lit.int .u8 x.toNat).wf = true := by
  have h := x.toNat_lt
  have e1 : IntKind.u8.min = 0 := rfl
  have e2 : IntKind.u8.max = 255 := rfl
  simp [Lit.wf, e1, e2]
  omega
theorem byte_of_wf {n : Int} (h : (Lit.int .u8 n).wf = true) : ∃ x : UInt8, n = x.toNat := by
  have h1 := of_wf_u8 h
  refine ⟨UInt8.ofNat n.toNat, ?_⟩
  rw [UInt8.toNat_ofNat']
  omega
theorem kB_key (x : UInt8) : WideAt.IsKeyLit (kB x) := trivial
theorem kB_inj {x y : UInt8} (h : kB x = kB y) : x = y := by
  simp only [kB, Lit.int.injEq, true_and] at h
  exact UInt8.toNat_inj.1 (by omega)
theorem kB_ne {x y : UInt8} (h : x ≠ y) : kB x ≠ kB y := fun e => h (kB_inj e)
theorem kB_same (x y : UInt8) : (kB x).sameKey (kB y) = (x == y) := by
  by_cases h : x = y
  · subst h; simp [Lit.sameKey]
  · have : (x == y) = false := beq_eq_false_iff_ne.2 h
    rw [this]; exact sameKey_ne (kB_ne h)
/-- A map as read that is the plain function f. -/
def IsFun (D : DataW Unit) (f : UInt8 → Option UInt8) : Prop :=
  ∀ x, has D (kB x) = (f x).isSome ∧ ∀ zd, D.atKey (kB x) zd = match f x with | some y => vB y | none => zd
theorem IsFun.some_ {D : DataW Unit} {f : UInt8 → Option UInt8} (h : IsFun D f) {x y : UInt8} (hy : f x = some y) : has D (kB x) = true ∧ ∀ zd, D.atKey (kB x) zd = vB y := by
  have h1 := h x; rw [hy] at h1; exact h1
theorem IsFun.none_ {D : DataW Unit} {f : UInt8 → Option UInt8} (h : IsFun D f) {x : UInt8} (hx : f x = none) : has D (kB x) = false ∧ ∀ zd, D.atKey (kB x) zd = zd := by
  have h1 := h x; rw [hx] at h1; exact h1
def putF (f : UInt8 → Option UInt8) (k v : UInt8) : UInt8 → Option UInt8 := fun x => if x = k then some v else f x
theorem isFun_empty : IsFun (.map []) fun _ => none := fun _ => ⟨rfl, fun _ => rfl⟩
theorem IsFun.put {D : DataW Unit} {f : UInt8 → Option UInt8} (h : IsFun D f) (hm : IsMap D) (k v : UInt8) : IsFun (D.put (kB k) (vB v)) (putF f k v) := by
  intro x
  unfold putF
  by_cases e : x = k
  · subst e
    rw [if_pos rfl]
    exact ⟨has_put_same hm (kB_key x) _, fun zd => atKey_put_same hm (kB_key x) _ _⟩
  · rw [if_neg e, has_put_other (kB_ne e)]
    exact ⟨(h x).1, fun zd => (atKey_put_other (kB_ne e) _ _).trans ((h x).2 zd)⟩
theorem IsFun.of_eq {D : DataW Unit} {f g : UInt8 → Option UInt8} (h : IsFun D f) (e : ∀ x, f x = g x) : IsFun D g := by
  have : f = g := funext e
  rw [← this]; exact h
theorem letters_eq (x : UInt8) : putF (putF (putF (putF (fun _ => none) 10 110) 9 116) 92 92) 34 34 x = letterO x := by
  unfold putF letterO
  by_cases h1 : x = 10
  · subst h1; rfl
  · by_cases h2 : x = 9
    · subst h2; rfl
    · by_cases h3 : x = 92
      · subst h3; rfl
      · by_cases h4 : x = 34
        · subst h4; rfl
        · simp [h1, h2, h3, h4]

/-- Block m is a map that is the function f. -/
def DictAt (w : World) (m : Nat) (f : UInt8 → Option UInt8) : Prop :=
  ∃ n D, n ≤ 4 ∧ w.ownsMap Tryz.prog 5 (plainElem Tryz.prog 5) m n D ∧ IsFun D f
theorem DictAt.lt {w : World} {m : Nat} {f : UInt8 → Option UInt8} (h : DictAt w m f) : m < w.heap.size := by
  obtain ⟨n, D, _, ho, _⟩ := h
  exact ho.lt
theorem DictAt.below {w w' : World} {m B : Nat} {f : UInt8 → Option UInt8} (h : DictAt w m f) (hb : Below B w w') (hm : m < B) : DictAt w' m f := by
  obtain ⟨n, D, hn, ho, hf⟩ := h
  obtain ⟨es, clock, he, r⟩ := ho
  exact ⟨n, D, hn, ⟨es, clock, (hb.block m hm).trans he, r⟩, hf⟩
theorem DictAt.alloc {w : World} {m : Nat} {f : UInt8 → Option UInt8} (h : DictAt w m f) (o : Obj) : DictAt (w.alloc o) m f := by
  obtain ⟨n, D, hn, ho, hf⟩ := h
  exact ⟨n, D, hn, ho.alloc o, hf⟩
/-- An element of a map that is written out, at the operation. -/
theorem wpList_insert_own {H : Type} {P : Program} (w : World) {ops : Array Oper} {rest : List Oper} {o : Oper} {a : Act} {Q : Exit → Act → World → Prop}
    (hg : o.guard = none) (m x v : Operand) (t : TypeId) (hop : o.op = Op.insert t m x v)
    (k e : TypeId) (K : Keyed P k) (ht : P.underlying t = some (.map k e)) (R : Value → Option (DataW H × List MemPlace)) (b n : Nat) (D : DataW H)
    (hm : a.eval m = .map (some b)) (hown : w.ownsMap P k R b n D) (hn : n < maxLen) (key val : Value) (kl : Lit) (hx : a.eval x = key) (hv : a.eval v = val) (hkey : keyOf P k key = some kl)
    (d : DataW H) (ps : List MemPlace) (hval : R val = some (d, ps))
    (hK : ∀ w', w'.ownsMap P k R b (n + 1) (D.put kl d) → w.grownBy w' (some b) → wpList P ops Q rest (a.put o.dst undef) w') :
    wpList P ops Q (o :: rest) a w := by
  refine wpList_plain hg fun K' hK' => ?_
  obtain ⟨w', hrun, r1, r2⟩ := hown.update K ht hn hkey hval
  unfold Oper.wp
  simp [execOp, hop, hm, hx, hv, hrun, Result.andThen]
  exact hK' _ _ (hK w' r1 r2)
set_option maxRecDepth 20000 in
/-- quote.lettersOfBytes. -/
theorem letters_any (w : World) :
    Calls Tryz.prog 183 #[] w fun e w' => e = .returned (.map (some w.heap.size)) ∧ w'.ownsMap Tryz.prog 5 (plainElem (H := Unit) Tryz.prog 5) w.heap.size 4 ((((((DataW.map []).put (kB 10) (vB 110)).put (kB 9) (vB 116)).put (kB 92) (vB 92)).put (kB 34) (vB 34))) ∧ Below w.heap.size w w' := by
  have hmm := @run_makeMap Tryz.prog
  have h0 : (w.alloc (.map #[] 0)).ownsMap Tryz.prog 5 (plainElem (H := Unit) Tryz.prog 5) w.heap.size 0 (.map []) := World.ownsMap_made _ _ _ _
  have b0 : Below w.heap.size w (w.alloc (.map #[] 0)) := (Below.refl _ _).alloc (Nat.le_refl _) _
  have hgrow : ∀ {wa wb : World}, Below w.heap.size w wa → wa.grownBy wb (some w.heap.size) → Below w.heap.size w wb := fun ha hb => ha.grown hb ha.size (fun j hj => by cases hj; exact Nat.le_refl _)
  go_enter Tryz.func183, Tryz.ntmps183
  go_wp2_with (refine wpList_insert_own _ rfl _ _ _ 172 rfl 5 5 keyed Tryz.underlying172 _ w.heap.size 0 _ rfl h0 (by decide) _ _ _ rfl rfl (keyOf_int_mk Tryz.underlying5 (wf_byte 10)) _ [] (plainElem_int Tryz.underlying5 (wf_byte 110)) ?_)
  intro w1 h1 g1
  have b1 := hgrow b0 g1
  go_wp2_with (refine wpList_insert_own _ rfl _ _ _ 172 rfl 5 5 keyed Tryz.underlying172 _ w.heap.size 1 _ rfl h1 (by decide) _ _ _ rfl rfl (keyOf_int_mk Tryz.underlying5 (wf_byte 9)) _ [] (plainElem_int Tryz.underlying5 (wf_byte 116)) ?_)
  intro w2 h2 g2
  have b2 := hgrow b1 g2
  go_wp2_with (refine wpList_insert_own _ rfl _ _ _ 172 rfl 5 5 keyed Tryz.underlying172 _ w.heap.size 2 _ rfl h2 (by decide) _ _ _ rfl rfl (keyOf_int_mk Tryz.underlying5 (wf_byte 92)) _ [] (plainElem_int Tryz.underlying5 (wf_byte 92)) ?_)
  intro w3 h3 g3
  have b3 := hgrow b2 g3
  go_wp2_with (refine wpList_insert_own _ rfl _ _ _ 172 rfl 5 5 keyed Tryz.underlying172 _ w.heap.size 3 _ rfl h3 (by decide) _ _ _ rfl rfl (keyOf_int_mk Tryz.underlying5 (wf_byte 34)) _ [] (plainElem_int Tryz.underlying5 (wf_byte 34)) ?_)
  intro w4 h4 g4
  have b4 := hgrow b3 g4
  go_wp2
  go_ret
  exact ⟨rfl, h4, b4⟩
end Go.Proofs.YtoggkigfijgbfaaGreatDoor
namespace Go.Proofs.YtoggkigfijgbfaaGreatDoor
set_option maxRecDepth 20000
open Go.RowKit Go.Maps

/-- What the new map holds of those letters whose bytes are no longer to come. -/
def halfF (left : Lit → Bool) (y : UInt8) : Option UInt8 := match byteO y with
  | some x => if left (kB x) then none else some x
  | none => none
theorem half_start {D : DataW Unit} (h : IsFun D letterO) (y : UInt8) : (fun _ => none) y = halfF (has D) y := by
  unfold halfF
  cases hb : byteO y with
  | none => rfl
  | some x => simp only []; rw [(h.some_ (byte_letter hb)).1, if_pos rfl]
theorem half_step {left : Lit → Bool} {x c : UInt8} (h : letterO x = some c) (y : UInt8) : putF (halfF left) c x y = halfF (fun z => left z && !z.sameKey (kB x)) y := by
  unfold putF halfF
  by_cases e : y = c
  · subst e
    rw [if_pos rfl, letter_byte h]
    simp only [kB_same]
    simp
  · rw [if_neg e]
    cases hb : byteO y with
    | none => rfl
    | some z =>
      simp only [kB_same]
      have : z ≠ x := fun e2 => by
        subst e2
        have h1 := byte_letter hb
        rw [h, Option.some.injEq] at h1
        exact e h1.symm
      have h2 : (z == x) = false := beq_eq_false_iff_ne.2 this
      rw [h2]; simp
theorem half_end {left : Lit → Bool} (h : ∀ k, left k = false) (y : UInt8) : halfF left y = byteO y := by
  unfold halfF
  cases byteO y with
  | none => rfl
  | some x => simp only []; rw [h, if_neg (by decide)]
theorem letters_fun : IsFun (((((DataW.map []).put (kB 10) (vB 110)).put (kB 9) (vB 116)).put (kB 92) (vB 92)).put (kB 34) (vB 34)) letterO := by
  have m0 : IsMap (.map [] : DataW Unit) := isMap_empty
  have m1 := m0.put (kB 10) (vB 110)
  have m2 := m1.put (kB 9) (vB 116)
  have m3 := m2.put (kB 92) (vB 92)
  exact ((((isFun_empty.put m0 10 110).put m1 9 116).put m2 92 92).put m3 34 34).of_eq letters_eq
/-- quote.lettersOfBytes, as a function. -/
theorem letters_dict (w : World) :
    Calls Tryz.prog 183 #[] w fun e w' => e = .returned (.map (some w.heap.size)) ∧ DictAt w' w.heap.size letterO ∧ Below w.heap.size w w' :=
  (letters_any w).mono fun _ _ h => ⟨h.1, ⟨4, _, Nat.le_refl _, h.2.1, letters_fun⟩, h.2.2⟩
set_option maxHeartbeats 1000000 in
/-- quote.bytesOfLetters. -/
theorem bytes_dict (w : World) :
    Calls Tryz.prog 136 #[] w fun e w' => e = .returned (.map (some w.heap.size)) ∧ DictAt w' w.heap.size byteO ∧ Below w.heap.size w w' := by
  have hmm := @run_makeMap Tryz.prog
  have e1 : (w.alloc (.map #[] 0)).heap.size = w.heap.size + 1 := by simp
  have L := letters_any (w.alloc (.map #[] 0))
  rw [e1] at L
  have F := letters_fun
  generalize hD : (((((DataW.map []).put (kB 10) (vB 110)).put (kB 9) (vB 116)).put (kB 92) (vB 92)).put (kB 34) (vB 34)) = D0 at L F
  clear hD
  go_enter Tryz.func136, Tryz.ntmps136
  go_wp2_with (go_at_call 183; refine L.mono ?_)
  rintro e w1 ⟨rfl, hD0, hb0⟩
  have ho0 : w1.ownsMap Tryz.prog 5 (plainElem (H := Unit) Tryz.prog 5) w.heap.size 0 (.map []) := by
    obtain ⟨es, clock, he, r⟩ := World.ownsMap_made (H := Unit) w Tryz.prog 5 (plainElem Tryz.prog 5)
    exact ⟨es, clock, (hb0.block _ (by simp)).trans he, r⟩
  have hbw : Below w.heap.size w w1 := below_box (by rw [e1]; exact hb0)
  have hs1 : w.heap.size + 2 ≤ w1.heap.size := hD0.lt
  go_wp2_with (at_range; refine wpList_range_own _ rfl _ 172 rfl 5 5 keyed Tryz.underlying172 _ (w.heap.size + 1) 4 _ rfl hD0 ?_; intro w2 hrg0 hg0 hs0)
  go_frame
  have hsz : Maps.size D0 ≤ 4 := hD0.size_le
  have hout0 := ho0.kept hg0 (by simp)
  have hbw2 : Below w.heap.size w w2 := hbw.grown hg0 hbw.size (fun j hj => by cases hj)
  go_loopw [7] (fun _ wr => ∃ (left : Lit → Bool) (cnt n : Nat) (Dout : DataW Unit), wr.ranges Tryz.prog 5 (plainElem Tryz.prog 5) (w.heap.size + 1) w1.heap.size 4 D0 left cnt ∧ n + cnt ≤ 4 ∧
      wr.ownsMap Tryz.prog 5 (plainElem Tryz.prog 5) w.heap.size n Dout ∧ IsFun Dout (halfF left) ∧ Below w.heap.size w wr)
    (fun _ wr => wr.rangeLeft (w.heap.size + 1) w1.heap.size)
  case atStart => exact ⟨_, _, 0, .map [], hrg0, by omega, hout0, isFun_empty.of_eq (half_start F), hbw2⟩
  case round =>
    obtain ⟨left, cnt, n, Dout, hrg, hcs, hout, hA, hnx⟩ := hrel
    go_wp2_with (at_next; refine wpList_next_ranges_ii _ rfl _ rfl 5 5 .u8 .u8 keyed Tryz.underlying5 Tryz.underlying5 (w.heap.size + 1) w1.heap.size 4 _ _ _ rfl hrg ?_ ?_)
    · intro hc0 hl0
      go_wp2_with fail
      go_ret
      exact ⟨rfl, ⟨n, Dout, by omega, hout, hA.of_eq (half_end hl0)⟩, hnx⟩
    · intro x c w3 cnt1 hwx hwc hlx hat hrg1 hlt hg1 hs3 hen
      obtain ⟨x, rfl⟩ := byte_of_wf hwx
      have hl : ∃ y, letterO x = some y ∧ c = (y.toNat : Int) := by
        cases hx : letterO x with
        | none =>
          have h1 := (F.none_ hx).2 .nil
          rw [hat] at h1
          cases h1
        | some y =>
          have h1 := (F.some_ hx).2 .nil
          rw [hat] at h1
          simp only [vB, DataW.lit.injEq, Lit.int.injEq, true_and] at h1
          exact ⟨y, rfl, h1⟩
      obtain ⟨y, hy, rfl⟩ := hl
      have hout1 := hout.kept hg1 (fun e => by have := Option.some.inj e; omega)
      go_wp2_with (at_mapUpdate; refine wpList_mapUpdate_own _ rfl _ _ _ 172 rfl 5 5 keyed Tryz.underlying172 _ w.heap.size n _ rfl hout1 (by unfold maxLen; omega) _ _ _ rfl rfl (keyOf_int_mk Tryz.underlying5 hwc) _ [] (plainElem_int Tryz.underlying5 hwx) ?_; intro w4 hout2 hg2; go_frame)
      have hrg2 := hrg1.kept hg2 (fun e => by have := Option.some.inj e; omega) (fun e => by have := Option.some.inj e; omega)
      go_roundw
      case rel =>
        exact ⟨_, cnt1, n + 1, _, hrg2, by omega, hout2, (hA.put hout.isMap y x).of_eq (half_step hy),
          (hnx.grown hg1 hnx.size (fun j hj => by cases hj; omega)).grown hg2 (by have := hnx.size; omega) (fun j hj => by cases hj; exact Nat.le_refl _)⟩
      case measure => rw [hrg2.left_eq, hrg.left_eq]; exact hlt
end Go.Proofs.YtoggkigfijgbfaaGreatDoor
namespace Go.Proofs.YtoggkigfijgbfaaGreatDoor
set_option maxRecDepth 20000
open Go.RowKit Go.Maps
theorem stands_any (c : UInt8) (w : World) : Calls Tryz.prog 185 #[.int .u8 c.toNat] w fun e w' => e = .returned (.bool (selfB c)) ∧ w' = w := by
  have hc := c.toNat_lt
  go_enter Tryz.func185, Tryz.ntmps185
  go_wp2_with fail
  all_goals go_ret
  all_goals refine ⟨ret_bool ?_, rfl⟩
  all_goals (rw [Bool.eq_iff_iff]; simp [selfB]; omega)
theorem dict_look {w : World} {m : Nat} {f : UInt8 → Option UInt8} (h : DictAt w m f) (x : UInt8) :
    (Instr.lookup 172 (.map (some m)) (.int .u8 x.toNat) true).run Tryz.prog w = .ok (.tuple #[.int .u8 ((f x).getD 0).toNat, .bool (f x).isSome]) w := by
  obtain ⟨n, D, _, ho, hf⟩ := h
  obtain ⟨v, ps, hr, hv⟩ := ho.look_ok keyed Tryz.underlying172 (zeroByte _) (plainElem_int (a := 0) Tryz.underlying5 (by decide)) (keyOf_int_mk Tryz.underlying5 (wf_byte x))
  obtain ⟨c, rfl, hc, hwc⟩ := plainElem_int_inv Tryz.underlying5 hv
  rw [hr, (hf x).1]
  have h1 := congrArg Prod.fst hc
  simp only [] at h1
  rw [(hf x).2] at h1
  cases hx : f x with
  | none =>
    rw [hx] at h1
    simp only [DataW.lit.injEq, Lit.int.injEq, true_and] at h1
    rw [← h1]; rfl
  | some y =>
    rw [hx] at h1
    simp only [vB, DataW.lit.injEq, Lit.int.injEq, true_and] at h1
    rw [← h1]; rfl
set_option maxHeartbeats 1000000 in
theorem write_self (B b m : Nat) (bs : List Value) (c : UInt8) (w : World) (hs : selfB c = true) (hI : Lib.IsBuilder 120 5 B b bs w) (hlen : bs.length + 4 ≤ 140737488355328) (hBw : B ≤ w.heap.size) :
    Calls Tryz.prog 258 #[.pointer (some ⟨b, 0, none⟩), .int .u8 c.toNat, .map (some m)] w fun e w' => e = .returned (.tuple #[]) ∧ Lib.IsBuilder 120 5 B b (bs ++ [.int .u8 c.toNat]) w' ∧ Below B w w' := by
  go_enter Tryz.func258, Tryz.ntmps258
  go_wp2_with (first
    | (go_at_call 185; refine (stands_any c _).mono ?_; rintro e w1 ⟨rfl, rfl⟩)
    | (go_at_call 138; refine (Tryz.Builder_WriteByte B b bs _ _ hI (by omega) hBw).mono ?_; rintro e w1 ⟨rfl, hI1, hb1⟩))
  (try simp only [Exit.inBlock, Exit.then])
  refine bodyPost_ret (results_none rfl _ _ _) rfl ?_
  exact ⟨rfl, .inr hI1, hb1⟩
set_option maxHeartbeats 1000000 in
theorem write_letter (B b m : Nat) (bs : List Value) (c l : UInt8) (w : World) (hs : selfB c = false) (hd : DictAt w m letterO) (hl : letterO c = some l) (hI : Lib.IsBuilder 120 5 B b bs w) (hlen : bs.length + 4 ≤ 140737488355328) (hBw : B ≤ w.heap.size) :
    Calls Tryz.prog 258 #[.pointer (some ⟨b, 0, none⟩), .int .u8 c.toNat, .map (some m)] w fun e w' => e = .returned (.tuple #[]) ∧ Lib.IsBuilder 120 5 B b (bs ++ [.int .u8 92] ++ [.int .u8 l.toNat]) w' ∧ Below B w w' := by
  have hk := dict_look hd c
  rw [hl] at hk
  simp only [Option.getD_some, Option.isSome_some] at hk
  go_enter Tryz.func258, Tryz.ntmps258
  go_wp2_with (first
    | (go_at_call 185; refine (stands_any c _).mono ?_; rintro e w1 ⟨rfl, rfl⟩)
    | (go_at_call 138; refine (Tryz.Builder_WriteByte B b bs _ _ hI (by omega) hBw).mono ?_; rintro e w2 ⟨rfl, hI1, hb1⟩)
    | (go_at_call 138; refine (Tryz.Builder_WriteByte B b _ _ _ (.inr hI1) (by simp; omega) (Nat.le_trans hBw hb1.size)).mono ?_; rintro e w3 ⟨rfl, hI2, hb2⟩))
  (try simp only [Exit.inBlock, Exit.then])
  refine bodyPost_ret (results_none rfl _ _ _) rfl ?_
  exact ⟨rfl, .inr hI2, hb1.trans hb2⟩
theorem hexAt (n : Nat) (h : n < 16) (g : n < (⟨#[48, 49, 50, 51, 52, 53, 54, 55, 56, 57, 97, 98, 99, 100, 101, 102]⟩ : ByteArray).size) : (⟨#[48, 49, 50, 51, 52, 53, 54, 55, 56, 57, 97, 98, 99, 100, 101, 102]⟩ : ByteArray)[n] = hexB n := by
  have : n = 0 ∨ n = 1 ∨ n = 2 ∨ n = 3 ∨ n = 4 ∨ n = 5 ∨ n = 6 ∨ n = 7 ∨ n = 8 ∨ n = 9 ∨ n = 10 ∨ n = 11 ∨ n = 12 ∨ n = 13 ∨ n = 14 ∨ n = 15 := by omega
  rcases this with rfl | rfl | rfl | rfl | rfl | rfl | rfl | rfl | rfl | rfl | rfl | rfl | rfl | rfl | rfl | rfl <;> rfl
set_option maxHeartbeats 1000000 in
theorem write_hex (B b m : Nat) (bs : List Value) (c : UInt8) (w : World) (hs : selfB c = false) (hd : DictAt w m letterO) (hl : letterO c = none) (hI : Lib.IsBuilder 120 5 B b bs w) (hlen : bs.length + 4 ≤ 140737488355328) (hBw : B ≤ w.heap.size) :
    Calls Tryz.prog 258 #[.pointer (some ⟨b, 0, none⟩), .int .u8 c.toNat, .map (some m)] w fun e w' => e = .returned (.tuple #[]) ∧ Lib.IsBuilder 120 5 B b (bs ++ Lib.strCells ⟨#[92, 120]⟩ ++ [.int .u8 (hexB (c.toNat / 16)).toNat] ++ [.int .u8 (hexB (c.toNat % 16)).toNat]) w' ∧ Below B w w' := by
  have hk := dict_look hd c
  rw [hl] at hk
  simp only [Option.getD_none, Option.isSome_none] at hk
  have hc := c.toNat_lt
  go_enter Tryz.func258, Tryz.ntmps258
  go_wp2_with (first
    | (go_at_call 185; refine (stands_any c _).mono ?_; rintro e w1 ⟨rfl, rfl⟩)
    | (go_at_call 138; refine (Tryz.Builder_WriteByte B b _ _ _ (.inr hI2) (show (bs ++ Lib.strCells ⟨#[92, 120]⟩ ++ [Value.int .u8 (hexB (c.toNat / 16)).toNat]).length + 1 ≤ 140737488355328 by rw [List.length_append, List.length_append]; show bs.length + 2 + 1 + 1 ≤ _; omega) (Nat.le_trans hBw (hb1.trans hb2).size)).mono ?_; rintro e w4 ⟨rfl, hI3, hb3⟩)
    | (go_at_call 138; refine (Tryz.Builder_WriteByte B b _ _ _ (.inr hI1) (show (bs ++ Lib.strCells ⟨#[92, 120]⟩).length + 1 ≤ 140737488355328 by rw [List.length_append]; show bs.length + 2 + 1 ≤ _; omega) (Nat.le_trans hBw hb1.size)).mono ?_; rintro e w3 ⟨rfl, hI2, hb2⟩; rw [hexAt _ (by omega)] at hI2)
    | (go_at_call 162; refine (Tryz.Builder_WriteString B b bs ⟨#[92, 120]⟩ _ hI (show bs.length + 2 ≤ 140737488355328 by omega) hBw).mono ?_; rintro e w2 ⟨rfl, hI1, hb1⟩))
  (try simp only [Exit.inBlock, Exit.then])
  refine bodyPost_end (results_none rfl _ _ _) rfl ?_
  rw [hexAt _ (by omega)] at hI3
  exact ⟨rfl, .inr hI3, (hb1.trans hb2).trans hb3⟩
/-- quote.write. -/
theorem write_any (B b m : Nat) (bs : List Value) (c : UInt8) (w : World) (hd : DictAt w m letterO) (hI : Lib.IsBuilder 120 5 B b bs w) (hlen : bs.length + 4 ≤ 140737488355328) (hBw : B ≤ w.heap.size) :
    Calls Tryz.prog 258 #[.pointer (some ⟨b, 0, none⟩), .int .u8 c.toNat, .map (some m)] w fun e w' => e = .returned (.tuple #[]) ∧ Lib.IsBuilder 120 5 B b (bs ++ Lib.byteCells (escL c)) w' ∧ Below B w w' := by
  unfold escL
  cases hs : selfB c with
  | true => exact write_self B b m bs c w hs hI hlen hBw
  | false =>
    simp only [Bool.false_eq_true, if_false]
    cases hl : letterO c with
    | some l =>
      refine (write_letter B b m bs c l w hs hd hl hI hlen hBw).mono fun e w' h => ⟨h.1, ?_, h.2.2⟩
      have := h.2.1
      rwa [List.append_assoc] at this
    | none =>
      refine (write_hex B b m bs c w hs hd hl hI hlen hBw).mono fun e w' h => ⟨h.1, ?_, h.2.2⟩
      have := h.2.1
      rwa [List.append_assoc, List.append_assoc] at this
theorem size_toList (s : ByteArray) : s.data.toList.length = s.size := Array.length_toList
theorem byte_at {s : ByteArray} {k : Nat} (h : k < s.size) : s.data.toList[k]? = some s[k] := by
  rw [List.getElem?_eq_getElem (by rw [size_toList]; exact h)]; rfl
theorem body_take {s : ByteArray} {k : Nat} (h : k < s.size) : bodyL (s.data.toList.take (k + 1)) = bodyL (s.data.toList.take k) ++ escL s[k] := by
  rw [List.take_add_one, byte_at h, body_append]
  simp [bodyL]
theorem body_take_length (s : ByteArray) (k : Nat) (h : s.size ≤ 1048576) : (bodyL (s.data.toList.take k)).length ≤ 4194304 := by
  have h1 := body_length (s.data.toList.take k)
  have h2 : (s.data.toList.take k).length ≤ s.size := by rw [List.length_take, size_toList]; omega
  omega
/-- How the text under way stands. -/
structure Way (w w1 : World) (m b : Nat) (s : ByteArray) (k : Nat) (w' : World) : Prop where
  text : Lib.IsBuilder 120 5 b b (Lib.byteCells (34 :: bodyL (s.data.toList.take k))) w'
  below : Below b w1 w'
  dict : DictAt w' m letterO
  at_ : b = w1.heap.size
  m_ : m < b
  low : Below w.heap.size w w1
theorem Way.room {w w1 w' : World} {m b k : Nat} {s : ByteArray} (h : Way w w1 m b s k w') : b ≤ w'.heap.size := by
  have := h.below.size; have := h.at_; omega
theorem Way.write {w w1 w2 : World} {m b k : Nat} {s : ByteArray} (h : Way w w1 m b s k w2) (hk : k < s.size) (hs : s.size ≤ 1048576) :
    Calls Tryz.prog 258 #[.pointer (some ⟨b, 0, none⟩), .int .u8 s[k].toNat, .map (some m)] w2 fun e w' => e = .returned (.tuple #[]) ∧ Way w w1 m b s (k + 1) w' := by
  have hl := body_take_length s k hs
  refine (write_any b b m _ s[k] w2 h.dict h.text (by rw [Lib.byteCells_length, List.length_cons]; omega) h.room).mono fun e w' r => ⟨r.1, ?_, h.below.trans r.2.2, h.dict.below r.2.2 h.m_, h.at_, h.m_, h.low⟩
  have := r.2.1
  rw [← Lib.byteCells_append] at this
  rw [body_take hk]
  exact this
theorem Way.shut {w w1 w2 : World} {m b k : Nat} {s : ByteArray} (h : Way w w1 m b s k w2) (hk : s.size ≤ k) (hs : s.size ≤ 1048576) :
    Calls Tryz.prog 162 #[.pointer (some ⟨b, 0, none⟩), .string ⟨#[34]⟩] w2 fun e w' => e = .returned (.tuple #[.int .i64 1, .nilIface]) ∧ Lib.IsBuilder 120 5 b b (Lib.byteCells (quoteL s.data.toList)) w' ∧ Below b w2 w' := by
  have hl := body_take_length s k hs
  have ht := h.text
  rw [List.take_of_length_le (by rw [size_toList]; exact hk)] at ht hl
  refine (Tryz.Builder_WriteString b b _ ⟨#[34]⟩ w2 ht (by rw [Lib.byteCells_length, List.length_cons]; show _ + 1 + 1 ≤ _; omega) h.room).mono fun e w' r => ⟨r.1, ?_, r.2.2⟩
  have := r.2.1
  rw [Lib.strCells_eq, ← Lib.byteCells_append] at this
  exact .inr this
theorem fresh_builder (w : World) : Lib.IsBuilder 120 5 w.heap.size w.heap.size [] (w.alloc (.cells #[.pointer none, .slice none 0 0] 120)) :=
  .inl ⟨Nat.le_refl _, .slice none 0 0, (MapKept.heap_alloc w _).1, ⟨by simp, .inl ⟨rfl, rfl⟩⟩, by simp [Value.ownBlock]⟩
theorem Way.start {w w1 : World} {s : ByteArray} (hd : DictAt w1 w.heap.size letterO) (hb : Below w.heap.size w w1) :
    Calls Tryz.prog 162 #[.pointer (some ⟨w1.heap.size, 0, none⟩), .string ⟨#[34]⟩] (w1.alloc (.cells #[.pointer none, .slice none 0 0] 120)) fun e w' => e = .returned (.tuple #[.int .i64 1, .nilIface]) ∧ Way w w1 w.heap.size w1.heap.size s 0 w' := by
  refine (Tryz.Builder_WriteString _ _ _ ⟨#[34]⟩ _ (fresh_builder w1) (show 0 + 1 ≤ _ by omega) (by simp)).mono fun e w' r => ⟨r.1, .inr r.2.1, ?_, ?_, rfl, hd.lt, hb⟩
  · exact ((Below.refl _ _).alloc (Nat.le_refl _) _).trans r.2.2
  · exact (hd.alloc _).below r.2.2 hd.lt
set_option maxHeartbeats 2000000 in
/-- quote.Quote: the string's text. -/
theorem Quote_any (s : ByteArray) (w : World) (hs : s.size ≤ 1048576) :
    Calls Tryz.prog 239 #[.string s] w fun e w' => e = .returned (.string ⟨(quoteL s.data.toList).toArray⟩) ∧ Below w.heap.size w w' := by
  go_enter Tryz.func239, Tryz.ntmps239
  go_wp2
  refine wp_scope_jumps 0 (fun a' w' => ∃ (w1 : World) (m b k : Nat) (u8 u9 u10 u11 u12 u13 u14 u15 u16 u17 u18 : Value), a' = { tmps := #[.string s, undef, .string ⟨#[]⟩, .map (some m), .pointer (some ⟨b, 0, none⟩), .int .i64 k, .map (some m), .tuple #[.int .i64 1, .nilIface], u8, u9, u10, u11, u12, u13, u14, u15, u16, u17, u18, undef, undef], defers := [] } ∧ k ≤ s.size ∧ Way w w1 m b s k w') (fun a' _ => s.size - (intOf (a'.tmps.getD 5 undef)).toNat) rfl ?_ ?_
  · go_wp2_with (go_at_call 183; refine (letters_dict _).mono ?_; rintro e w1 ⟨rfl, hd, hb1⟩)
    refine (Way.start (s := s) hd hb1).mono ?_
    rintro e w2 ⟨rfl, hW⟩
    go_wp2_with fail
    go_step3
    by_cases hk : 0 < s.size
    · go_wp2_with (go_at_call 258; refine (hW.write hk hs).mono ?_; rintro e w3 ⟨rfl, hW⟩)
      go_step3
      exact ⟨rfl, w1, _, _, 1, _, _, _, _, _, _, _, _, _, _, _, rfl, hk, hW⟩
    · go_wp2_with (first
        | (go_at_call 162; refine (hW.shut (by omega) hs).mono ?_; rintro e w3 ⟨rfl, hI, hb⟩)
        | (go_at_call 61; refine (Tryz.Builder_String_any _ _ _ _ hI (Nat.le_trans hW.room hb.size)).mono ?_; rintro e w4 ⟨rfl, hb2⟩))
      simp only [Exit.jump]
      go_ret
      exact ⟨rfl, hW.low.trans (((hW.below.trans hb).trans hb2).mono (by have := hW.at_; have := hW.low.size; omega))⟩
  · rintro a' w2 ⟨w1, m, b, k, u8, u9, u10, u11, u12, u13, u14, u15, u16, u17, u18, rfl, hk0, hW⟩
    by_cases hk : k < s.size
    · go_wp2_with (go_at_call 258; refine (hW.write hk hs).mono ?_; rintro e w3 ⟨rfl, hW⟩)
      go_step3
      refine ⟨rfl, ⟨w1, _, _, k + 1, _, _, _, _, _, _, _, _, _, _, _, by go_num, hk, hW⟩, ?_⟩
      simp [intOf]
      omega
    · go_wp2_with (first
        | (go_at_call 162; refine (hW.shut (by omega) hs).mono ?_; rintro e w3 ⟨rfl, hI, hb⟩)
        | (go_at_call 61; refine (Tryz.Builder_String_any _ _ _ _ hI (Nat.le_trans hW.room hb.size)).mono ?_; rintro e w4 ⟨rfl, hb2⟩))
      simp only [Exit.jump]
      go_ret
      exact ⟨rfl, hW.low.trans (((hW.below.trans hb).trans hb2).mono (by have := hW.at_; have := hW.low.size; omega))⟩
end Go.Proofs.YtoggkigfijgbfaaGreatDoor
namespace Go.Proofs.YtoggkigfijgbfaaGreatDoor
set_option maxRecDepth 20000
open Go.RowKit Go.Maps

theorem digit_none (n : Int) (w : World) (h : ¬ (48 ≤ n ∧ n ≤ 57) ∧ ¬ (97 ≤ n ∧ n ≤ 102)) : Calls Tryz.prog 227 #[.int .i32 n] w fun e w' => e = .returned (.int .i64 (-1)) ∧ w' = w := by
  have h0 := not_eq (k := n) (j := 48) (by omega)
  have h1 := not_eq (k := n) (j := 49) (by omega)
  have h2 := not_eq (k := n) (j := 50) (by omega)
  have h3 := not_eq (k := n) (j := 51) (by omega)
  have h4 := not_eq (k := n) (j := 52) (by omega)
  have h5 := not_eq (k := n) (j := 53) (by omega)
  have h6 := not_eq (k := n) (j := 54) (by omega)
  have h7 := not_eq (k := n) (j := 55) (by omega)
  have h8 := not_eq (k := n) (j := 56) (by omega)
  have h9 := not_eq (k := n) (j := 57) (by omega)
  have ha := not_eq (k := n) (j := 97) (by omega)
  have hb := not_eq (k := n) (j := 98) (by omega)
  have hc := not_eq (k := n) (j := 99) (by omega)
  have hd := not_eq (k := n) (j := 100) (by omega)
  have he := not_eq (k := n) (j := 101) (by omega)
  have hf := not_eq (k := n) (j := 102) (by omega)
  clear h
  go_enter Tryz.func227, Tryz.ntmps227
  go_wp2_with fail
  go_ret
  exact ⟨rfl, rfl⟩
theorem digit_low (n : Int) (w : World) (h : 48 ≤ n ∧ n ≤ 57) : Calls Tryz.prog 227 #[.int .i32 n] w fun e w' => e = .returned (.int .i64 (n - 48)) ∧ w' = w := by
  have : n = 48 ∨ n = 49 ∨ n = 50 ∨ n = 51 ∨ n = 52 ∨ n = 53 ∨ n = 54 ∨ n = 55 ∨ n = 56 ∨ n = 57 := by omega
  clear h
  rcases this with rfl | rfl | rfl | rfl | rfl | rfl | rfl | rfl | rfl | rfl
  all_goals
    go_enter Tryz.func227, Tryz.ntmps227
    go_wp2_with fail
    go_ret
    exact ⟨rfl, rfl⟩
theorem digit_high (n : Int) (w : World) (h : 97 ≤ n ∧ n ≤ 102) : Calls Tryz.prog 227 #[.int .i32 n] w fun e w' => e = .returned (.int .i64 (n - 87)) ∧ w' = w := by
  have : n = 97 ∨ n = 98 ∨ n = 99 ∨ n = 100 ∨ n = 101 ∨ n = 102 := by omega
  clear h
  rcases this with rfl | rfl | rfl | rfl | rfl | rfl
  all_goals
    go_enter Tryz.func227, Tryz.ntmps227
    go_wp2_with fail
    go_ret
    exact ⟨rfl, rfl⟩
def digI (c : UInt8) : Int := match hexO c with | some n => n | none => -1
/-- quote.digit. -/
theorem digit_any (c : UInt8) (w : World) : Calls Tryz.prog 227 #[.int .i32 c.toNat] w fun e w' => e = .returned (.int .i64 (digI c)) ∧ w' = w := by
  unfold digI hexO
  by_cases h : 48 ≤ c.toNat ∧ c.toNat ≤ 57
  · rw [if_pos h]
    exact (digit_low c.toNat w (by omega)).mono fun e w' r => ⟨r.1.trans (ret_int (by simp only []; omega)), r.2⟩
  · rw [if_neg h]
    by_cases g : 97 ≤ c.toNat ∧ c.toNat ≤ 102
    · rw [if_pos g]
      exact (digit_high c.toNat w (by omega)).mono fun e w' r => ⟨r.1.trans (ret_int (by simp only []; omega)), r.2⟩
    · rw [if_neg g]
      exact digit_none c.toNat w (by omega)
theorem dig_some {c : UInt8} {n : Nat} (h : hexO c = some n) : digI c = n ∧ n < 16 := by
  unfold digI
  rw [h]
  refine ⟨rfl, ?_⟩
  unfold hexO at h
  split at h
  · cases h; omega
  · split at h
    · cases h; omega
    · cases h
theorem dig_none {c : UInt8} (h : hexO c = none) : digI c = -1 := by unfold digI; rw [h]
/-- The pair that first and escaped answer. -/
def pairV (r : Option (UInt8 × Nat)) : Value := match r with
  | some x => .tuple #[.int .u8 x.1.toNat, .int .i64 x.2]
  | none => .tuple #[.int .u8 0, .int .i64 0]

theorem esc_empty (t : ByteArray) (m : Nat) (w : World) (ht : t.toList.isEmpty = true) :
    Calls Tryz.prog 184 #[.string t, .map (some m)] w fun e w' => e = .returned (.tuple #[.int .u8 0, .int .i64 0]) ∧ w' = w := by
  go_enter Tryz.func184, Tryz.ntmps184
  go_wp2_with fail
  go_ret2
  exact ⟨rfl, rfl⟩
theorem esc_byte (t : ByteArray) (m : Nat) (w : World) (ht : t.toList.isEmpty = false) (h0 : 0 < t.size) (hd : DictAt w m byteO) (b : UInt8) (hb : byteO t[0] = some b) :
    Calls Tryz.prog 184 #[.string t, .map (some m)] w fun e w' => e = .returned (.tuple #[.int .u8 b.toNat, .int .i64 2]) ∧ w' = w := by
  have hk := dict_look hd t[0]
  rw [hb] at hk
  simp only [Option.getD_some, Option.isSome_some] at hk
  go_enter Tryz.func184, Tryz.ntmps184
  go_wp2_with fail
  go_ret2
  exact ⟨rfl, rfl⟩
theorem esc_other (t : ByteArray) (m : Nat) (w : World) (ht : t.toList.isEmpty = false) (h0 : 0 < t.size) (hd : DictAt w m byteO) (hb : byteO t[0] = none) (hx : ((t[0].toNat : Int) != 120) = true) :
    Calls Tryz.prog 184 #[.string t, .map (some m)] w fun e w' => e = .returned (.tuple #[.int .u8 0, .int .i64 0]) ∧ w' = w := by
  have hk := dict_look hd t[0]
  rw [hb] at hk
  simp only [Option.getD_none, Option.isSome_none] at hk
  go_enter Tryz.func184, Tryz.ntmps184
  go_wp2_with fail
  go_ret2
  exact ⟨rfl, rfl⟩
theorem esc_short (t : ByteArray) (m : Nat) (w : World) (ht : t.toList.isEmpty = false) (h0 : 0 < t.size) (hd : DictAt w m byteO) (hb : byteO t[0] = none) (hx : ((t[0].toNat : Int) != 120) = false) (hs : t.size < 3) :
    Calls Tryz.prog 184 #[.string t, .map (some m)] w fun e w' => e = .returned (.tuple #[.int .u8 0, .int .i64 0]) ∧ w' = w := by
  have hk := dict_look hd t[0]
  rw [hb] at hk
  simp only [Option.getD_none, Option.isSome_none] at hk
  go_enter Tryz.func184, Tryz.ntmps184
  go_wp2_with fail
  go_ret2
  exact ⟨rfl, rfl⟩
theorem digit_wrap (c : UInt8) (w : World) : Calls Tryz.prog 227 #[.int .i32 (IntKind.i32.wrap c.toNat)] w fun e w' => e = .returned (.int .i64 (digI c)) ∧ w' = w := by
  have h := c.toNat_lt
  have e : IntKind.i32.wrap (c.toNat : Int) = c.toNat := by rw [IntKind.wrap_i32]; omega
  rw [e]; exact digit_any c w
theorem or_byte {a b : Nat} (ha : a < 16) (hb : b < 16) : bits BinOp.or IntKind.i64 ((a : Int) * 16) (b : Int) % 256 = ((UInt8.ofNat (16 * a + b)).toNat : Int) := by
  have h : ((List.range 16).all fun a => (List.range 16).all fun b => bits BinOp.or IntKind.i64 ((a : Int) * 16) (b : Int) % 256 == ((UInt8.ofNat (16 * a + b)).toNat : Int)) = true := by kernel_rfl
  exact eq_of_beq (List.all_eq_true.1 (List.all_eq_true.1 h a (by simpa using ha)) b (by simpa using hb))
theorem index_at (t : ByteArray) (i : Nat) (h : i < t.size) (w : World) : (Instr.index 9 (.string t) (.int .i64 i)).run Tryz.prog w = .ok (.int .u8 t[i].toNat) w := by
  rw [run_index_string _ _ _ _ _ Tryz.underlying9, dif_pos ⟨by omega, by omega⟩]
  rfl
set_option maxHeartbeats 1000000 in
theorem esc_hex (t : ByteArray) (m : Nat) (w : World) (ht : t.toList.isEmpty = false) (h0 : 0 < t.size) (hd : DictAt w m byteO) (hb : byteO t[0] = none) (hx : ((t[0].toNat : Int) != 120) = false) (hs : 2 < t.size)
    (x y : UInt8) (i1 : ∀ w, (Instr.index 9 (.string t) (.int .i64 1)).run Tryz.prog w = .ok (.int .u8 x.toNat) w) (i2 : ∀ w, (Instr.index 9 (.string t) (.int .i64 2)).run Tryz.prog w = .ok (.int .u8 y.toNat) w) :
    Calls Tryz.prog 184 #[.string t, .map (some m)] w fun e w' => e = .returned (pairV (hex2 x y)) ∧ ∃ n, w' = w.drewN n := by
  have hk := dict_look hd t[0]
  rw [hb] at hk
  simp only [Option.getD_none, Option.isSome_none] at hk
  have hs2 : decide ((t.size : Int) < 3) = false := decide_eq_false (by omega)
  have q1 := x.toNat_lt
  have q2 := y.toNat_lt
  have D1 := Lib.hid (fun w => digit_wrap x w)
  have D2 := Lib.hid (fun w => digit_wrap y w)
  unfold hex2
  cases e1 : hexO x with
  | none =>
    rw [dig_none e1] at D1
    go_enter Tryz.func184, Tryz.ntmps184
    go_wp2_with fail
    go_quiet ((go_at_call 227; first | (with_reducible exact Calls.quiet_of_same (D1.out _)) | (with_reducible exact Calls.quiet_of_same (D2.out _))))
    go_wp2_with fail
    all_goals go_ret2
    all_goals exact ⟨rfl, _, rfl⟩
  | some a =>
    obtain ⟨d1, l1⟩ := dig_some e1
    rw [d1] at D1
    cases e2 : hexO y with
    | none =>
      rw [dig_none e2] at D2
      go_enter Tryz.func184, Tryz.ntmps184
      go_wp2_with fail
      go_quiet ((go_at_call 227; first | (with_reducible exact Calls.quiet_of_same (D1.out _)) | (with_reducible exact Calls.quiet_of_same (D2.out _))))
      go_wp2_with fail
      go_ret2
      exact ⟨rfl, _, rfl⟩
    | some b =>
      obtain ⟨d2, l2⟩ := dig_some e2
      rw [d2] at D2
      go_enter Tryz.func184, Tryz.ntmps184
      go_wp2_with fail
      go_quiet ((go_at_call 227; first | (with_reducible exact Calls.quiet_of_same (D1.out _)) | (with_reducible exact Calls.quiet_of_same (D2.out _))))
      go_wp2_with fail
      go_ret2
      exact ⟨ret_pair (or_byte l1 l2) rfl, _, rfl⟩
/-- quote.escaped. -/
theorem escaped_any (t : ByteArray) (m : Nat) (w : World) (hd : DictAt w m byteO) :
    Calls Tryz.prog 184 #[.string t, .map (some m)] w fun e w' => e = .returned (pairV (afterL t.data.toList)) ∧ ∃ n, w' = w.drewN n := by
  have same : ∀ {e : Ending} {w' : World} {v : Value}, e = .returned v ∧ w' = w → e = .returned v ∧ ∃ n, w' = w.drewN n := fun h => ⟨h.1, 0, h.2⟩
  by_cases h0 : 0 < t.size
  · have hl := size_toList t
    have ht : t.toList.isEmpty = false := by rw [Lib.toList_data]; cases h : t.data.toList with
      | nil => rw [h] at hl; simp at hl; omega
      | cons c r => rfl
    obtain ⟨r, hr⟩ : ∃ r, t.data.toList = t[0] :: r := by
      have h1 := byte_at h0
      cases h : t.data.toList with
      | nil => rw [h] at h1; simp at h1
      | cons c r => rw [h] at h1; simp at h1; exact ⟨r, by rw [h1]⟩
    rw [hr]
    simp only [afterL]
    cases hb : byteO t[0] with
    | some b => exact (esc_byte t m w ht h0 hd b hb).mono fun e w' h => same h
    | none =>
      simp only []
      by_cases hx : t[0] = 120
      · rw [if_pos hx]
        have hx2 : ((t[0].toNat : Int) != 120) = false := by rw [hx]; rfl
        rw [hr] at hl
        simp only [List.length_cons] at hl
        by_cases h3 : 2 < t.size
        · have i1 := byte_at (s := t) (k := 1) (by omega)
          have i2 := byte_at (s := t) (k := 2) (by omega)
          rw [hr] at i1 i2
          rw [List.getElem?_cons_succ] at i1 i2
          rw [hexL_at i1 i2]
          exact esc_hex t m w ht h0 hd hb hx2 h3 _ _ (fun w => index_at t 1 (by omega) w) (fun w => index_at t 2 (by omega) w)
        · rw [hexL_short (by omega)]
          exact (esc_short t m w ht h0 hd hb hx2 (by omega)).mono fun e w' h => same h
      · rw [if_neg hx]
        have hx2 : ((t[0].toNat : Int) != 120) = true := by
          rw [bne_iff_ne]; intro h
          exact hx (UInt8.toNat_inj.1 (show t[0].toNat = 120 by omega))
        exact (esc_other t m w ht h0 hd hb hx2).mono fun e w' h => same h
  · have hn : t.data.toList = [] := List.length_eq_zero_iff.1 (by rw [size_toList]; omega)
    rw [hn]
    exact (esc_empty t m w (by rw [Lib.toList_data, hn]; rfl)).mono fun e w' h => same h
end Go.Proofs.YtoggkigfijgbfaaGreatDoor
namespace Go.Proofs.YtoggkigfijgbfaaGreatDoor
set_option maxRecDepth 20000
open Go.RowKit Go.Maps

theorem suffix_one (m : List UInt8) (x : UInt8) : Lib.hasSuffix (m ++ [x]) [34] = decide (x = 34) := by
  rw [← Lib.hasSuffix_of_drop]
  simp
  by_cases h : x = 34 <;> simp [h]
/-- What lies between the quotes, in the library's words. -/
theorem midL_cut (q : List UInt8) : midL q = if Lib.hasPrefix q [34] && Lib.hasSuffix (Lib.trimPrefix q [34]) [34] then some (Lib.trimSuffix (Lib.trimPrefix q [34]) [34]) else none := by
  match q with
  | [] => rfl
  | c :: r =>
    by_cases hc : c = 34
    · subst hc
      have e1 : Lib.hasPrefix (34 :: r) [34] = true := by simp [Lib.hasPrefix]
      have e2 : Lib.trimPrefix (34 :: r) [34] = r := by unfold Lib.trimPrefix; rw [e1]; simp
      rw [e1, e2, Bool.true_and]
      rcases List.eq_nil_or_concat r with rfl | ⟨m, x, rfl⟩
      · rfl
      · rw [List.concat_eq_append]
        by_cases hx : x = 34
        · subst hx
          have e3 : Lib.hasSuffix (m ++ [34]) [34] = true := by rw [suffix_one]; simp
          rw [e3, if_pos rfl]
          unfold midL Lib.trimSuffix
          rw [e3, if_pos rfl, if_pos ⟨by simp, rfl, by simp [List.getLast?_cons]⟩]
          simp
        · have e3 : Lib.hasSuffix (m ++ [x]) [34] = false := by rw [suffix_one]; simp [hx]
          rw [e3, if_neg (by simp)]
          unfold midL
          rw [if_neg]
          rintro ⟨_, _, h⟩
          simp [List.getLast?_cons] at h
          exact hx h
    · have e1 : Lib.hasPrefix (c :: r) [34] = false := by
        have : ((34 : UInt8) == c) = false := beq_eq_false_iff_ne.2 fun e => hc e.symm
        show ((34 == c) && List.isPrefixOf [] r) = false
        rw [this]; rfl
      rw [e1, Bool.false_and, if_neg (by simp)]
      unfold midL
      rw [if_neg]
      rintro ⟨_, h, _⟩
      simp at h
      exact hc h
theorem first_back (t : ByteArray) (m : Nat) (w : World) (h0 : 0 < t.size) (hb : ((t[0].toNat : Int) == 92) = true) (v0 v1 : Value)
    (E : ∀ w, DictAt w m byteO → Calls Tryz.prog 184 #[.string (t.extract 1 t.size), .map (some m)] w fun e w' => e = .returned (.tuple #[v0, v1]) ∧ ∃ n, w' = w.drewN n) (hd : DictAt w m byteO) :
    Calls Tryz.prog 137 #[.string t, .map (some m)] w fun e w' => e = .returned (.tuple #[v0, v1]) ∧ ∃ n, w' = w.drewN n := by
  have E2 := Lib.hid E
  clear E
  go_enter Tryz.func137, Tryz.ntmps137
  go_wp2_with (go_at_call 184; refine (E2.out _ hd).mono ?_; rintro e w1 ⟨rfl, n, rfl⟩)
  go_ret2
  exact ⟨rfl, _, rfl⟩
theorem first_self (t : ByteArray) (m : Nat) (w : World) (h0 : 0 < t.size) (hb : ((t[0].toNat : Int) == 92) = false) (hs : selfB t[0] = true) :
    Calls Tryz.prog 137 #[.string t, .map (some m)] w fun e w' => e = .returned (.tuple #[.int .u8 t[0].toNat, .int .i64 1]) ∧ w' = w := by
  go_enter Tryz.func137, Tryz.ntmps137
  go_wp2_with (go_at_call 185; refine (stands_any t[0] _).mono ?_; rintro e w1 ⟨rfl, rfl⟩)
  go_ret2
  exact ⟨rfl, rfl⟩
theorem first_none (t : ByteArray) (m : Nat) (w : World) (h0 : 0 < t.size) (hb : ((t[0].toNat : Int) == 92) = false) (hs : selfB t[0] = false) :
    Calls Tryz.prog 137 #[.string t, .map (some m)] w fun e w' => e = .returned (.tuple #[.int .u8 0, .int .i64 0]) ∧ w' = w := by
  go_enter Tryz.func137, Tryz.ntmps137
  go_wp2_with (go_at_call 185; refine (stands_any t[0] _).mono ?_; rintro e w1 ⟨rfl, rfl⟩)
  go_ret2
  exact ⟨rfl, rfl⟩
theorem head_at {t : ByteArray} (h0 : 0 < t.size) : ∃ r, t.data.toList = t[0] :: r := by
  have h1 := byte_at h0
  cases h : t.data.toList with
  | nil => rw [h] at h1; simp at h1
  | cons c r => rw [h] at h1; simp at h1; exact ⟨r, by rw [h1]⟩
/-- quote.first. -/
theorem first_any (t : ByteArray) (m : Nat) (w : World) (h0 : 0 < t.size) (hd : DictAt w m byteO) :
    Calls Tryz.prog 137 #[.string t, .map (some m)] w fun e w' => e = .returned (pairV (oneL t.data.toList)) ∧ ∃ n, w' = w.drewN n := by
  obtain ⟨r, hr⟩ := head_at h0
  have hl := size_toList t
  rw [hr] at hl ⊢
  simp only [oneL]
  by_cases hc : t[0] = 92
  · rw [if_pos hc]
    have hx : (t.extract 1 t.size).data.toList = r := by
      rw [Lib.extract_data, hr]
      simp only [List.length_cons] at hl
      rw [List.drop_succ_cons, List.drop_zero, List.take_of_length_le (by omega)]
    have E := fun w hd => escaped_any (t.extract 1 t.size) m w hd
    rw [hx] at E
    have hb : ((t[0].toNat : Int) == 92) = true := by rw [hc]; rfl
    cases ha : afterL r with
    | none => rw [ha] at E; exact first_back t m w h0 hb _ _ E hd
    | some x => rw [ha] at E; exact first_back t m w h0 hb _ _ E hd
  · rw [if_neg hc]
    have hb : ((t[0].toNat : Int) == 92) = false := by
      rw [beq_eq_false_iff_ne]; intro h
      exact hc (UInt8.toNat_inj.1 (show t[0].toNat = 92 by omega))
    cases hs : selfB t[0] with
    | true => exact (first_self t m w h0 hb hs).mono fun e w' h => ⟨h.1, 0, h.2⟩
    | false => exact (first_none t m w h0 hb hs).mono fun e w' h => ⟨h.1, 0, h.2⟩
/-- How the reading under way stands: acc was read, rest is to come. -/
structure Rd (w w1 : World) (m b : Nat) (mid : List UInt8) (rest : ByteArray) (acc : List UInt8) (w' : World) : Prop where
  text : Lib.IsBuilder 120 5 b b (Lib.byteCells acc) w'
  below : Below b w1 w'
  dict : DictAt w' m byteO
  at_ : b = w1.heap.size
  m_ : m < b
  low : Below w.heap.size w w1
  goes : readL mid = (readL rest.data.toList).map (acc ++ ·)
  room : acc.length + rest.size ≤ 1048576
section
variable {w w1 w2 : World} {m b : Nat} {mid acc : List UInt8} {rest : ByteArray}
theorem Rd.size (h : Rd w w1 m b mid rest acc w2) : b ≤ w2.heap.size := by
  have := h.below.size; have := h.at_; omega
theorem Rd.all (h : Rd w w1 m b mid rest acc w2) : Below w.heap.size w w2 := h.low.trans (h.below.mono (by have := h.at_; have := h.low.size; omega))
theorem Rd.drew (h : Rd w w1 m b mid rest acc w2) (n : Nat) : Rd w w1 m b mid rest acc (w2.drewN n) :=
  ⟨h.text, below_drewN h.below n, h.dict, h.at_, h.m_, h.low, h.goes, h.room⟩
theorem Rd.first (h : Rd w w1 m b mid rest acc w2) (h0 : 0 < rest.size) :
    Calls Tryz.prog 137 #[.string rest, .map (some m)] w2 fun e w' => e = .returned (pairV (oneL rest.data.toList)) ∧ Rd w w1 m b mid rest acc w' :=
  (first_any rest m w2 h0 h.dict).mono fun e w' r => ⟨r.1, by obtain ⟨n, rfl⟩ := r.2; exact h.drew n⟩
theorem Rd.write {c : UInt8} {n : Nat} (h : Rd w w1 m b mid rest acc w2) (ho : oneL rest.data.toList = some (c, n)) :
    Calls Tryz.prog 138 #[.pointer (some ⟨b, 0, none⟩), .int .u8 c.toNat] w2 fun e w' => e = .returned .nilIface ∧ Rd w w1 m b mid (rest.extract n rest.size) (acc ++ [c]) w' := by
  have hp := oneL_pos ho
  have hr := h.room
  rw [size_toList] at hp
  have hx : (rest.extract n rest.size).data.toList = rest.data.toList.drop n := by
    rw [Lib.extract_data, List.take_of_length_le (by rw [List.length_drop, size_toList]; omega)]
  refine (Tryz.Builder_WriteByte b b _ c.toNat w2 h.text (by rw [Lib.byteCells_length]; omega) h.size).mono fun e w' r => ⟨r.1, ?_, h.below.trans r.2.2, h.dict.below r.2.2 h.m_, h.at_, h.m_, h.low, ?_, ?_⟩
  · have := r.2.1
    rw [Lib.byteCells_append]
    exact .inr this
  · rw [hx, h.goes, readL_some ho]
    cases readL (rest.data.toList.drop n) with
    | none => rfl
    | some s => simp
  · rw [List.length_append, ← size_toList, hx, List.length_drop, size_toList]
    simp only [List.length_cons, List.length_nil]
    omega
theorem Rd.none_ (h : Rd w w1 m b mid rest acc w2) (h0 : 0 < rest.size) (ho : oneL rest.data.toList = none) : readL mid = none := by
  rw [h.goes, readL_none (fun e => by have := size_toList rest; rw [e] at this; simp at this; omega) ho]; rfl
theorem Rd.some_ (h : Rd w w1 m b mid rest acc w2) (h0 : rest.size = 0) : readL mid = some acc := by
  have e : rest.data.toList = [] := List.length_eq_zero_iff.1 (by rw [size_toList]; exact h0)
  rw [h.goes, e, readL_nil]; simp
theorem Rd.len (h : Rd w w1 m b mid rest acc w2) : Calls Tryz.prog 139 #[.pointer (some ⟨b, 0, none⟩)] w2 fun e w' => e = .returned (.int .i64 acc.length) ∧ w' = w2 := by
  have := Tryz.Builder_Len b b _ w2 h.text
  rwa [Lib.byteCells_length] at this
theorem Rd.string (h : Rd w w1 m b mid rest acc w2) : Calls Tryz.prog 61 #[.pointer (some ⟨b, 0, none⟩)] w2 fun e w' => e = .returned (.string ⟨acc.toArray⟩) ∧ Below w.heap.size w w' :=
  (Tryz.Builder_String_any b b acc w2 h.text h.size).mono fun e w' r => ⟨r.1, h.all.trans (r.2.mono (by have := h.at_; have := h.low.size; omega))⟩
end
/-- The reading's start. -/
theorem Rd.start {w w1 : World} {r2 : ByteArray} (hd : DictAt w1 w.heap.size byteO) (hb : Below w.heap.size w w1) (hs : r2.size ≤ 1048576) :
    Rd w w1 w.heap.size w1.heap.size r2.data.toList r2 [] (w1.alloc (.cells #[.pointer none, .slice none 0 0] 120)) :=
  ⟨fresh_builder w1, (Below.refl _ _).alloc (Nat.le_refl _) _, hd.alloc _, rfl, hd.lt, hb, by simp, by simpa using hs⟩
def strOf : Value → ByteArray | .string s => s | _ => ⟨#[]⟩
theorem isEmpty_of {t : ByteArray} (h : t.size = 0) : t.toList.isEmpty = true := by
  have e : t.data.toList = [] := List.length_eq_zero_iff.1 (by rw [size_toList]; exact h)
  rw [Lib.toList_data, e]; rfl
theorem not_isEmpty {t : ByteArray} (h : 0 < t.size) : t.toList.isEmpty = false := by
  obtain ⟨r, hr⟩ := head_at h
  rw [Lib.toList_data, hr]; rfl
theorem cut1 (q r1 : ByteArray) (b1 : Bool) (w : World) (e1 : Lib.trimPrefix q.data.toList [34] = r1.data.toList) (e2 : Lib.hasPrefix q.data.toList [34] = b1) :
    Calls Tryz.prog 134 #[.string q, .string ⟨#[34]⟩] w fun e w' => e = .returned (.tuple #[.string r1, .bool b1]) ∧ w' = w := by
  have h := Tryz.strings_CutPrefix q ⟨#[34]⟩ w
  rw [show (⟨#[34]⟩ : ByteArray).data.toList = [34] from rfl, e1, e2] at h
  exact h
theorem cut2 (q r1 : ByteArray) (b1 : Bool) (w : World) (hs : q.size ≤ 9223372036854775807) (e1 : Lib.trimSuffix q.data.toList [34] = r1.data.toList) (e2 : Lib.hasSuffix q.data.toList [34] = b1) :
    Calls Tryz.prog 135 #[.string q, .string ⟨#[34]⟩] w fun e w' => e = .returned (.tuple #[.string r1, .bool b1]) ∧ w' = w := by
  have h := Tryz.strings_CutSuffix q ⟨#[34]⟩ w hs
  rw [show (⟨#[34]⟩ : ByteArray).data.toList = [34] from rfl, e1, e2] at h
  exact h
theorem unq_open (q r1 r2 : ByteArray) (b2 : Bool) (w : World)
    (C1 : ∀ w, Calls Tryz.prog 134 #[.string q, .string ⟨#[34]⟩] w fun e w' => e = .returned (.tuple #[.string r1, .bool false]) ∧ w' = w)
    (C2 : ∀ w, Calls Tryz.prog 135 #[.string r1, .string ⟨#[34]⟩] w fun e w' => e = .returned (.tuple #[.string r2, .bool b2]) ∧ w' = w) :
    Calls Tryz.prog 83 #[.string q] w fun e w' => e = .returned (.tuple #[.string ⟨#[]⟩, .int .i64 4]) ∧ w' = w := by
  have C1 := Lib.hid C1
  have C2 := Lib.hid C2
  go_enter Tryz.func83, Tryz.ntmps83
  go_wp2
  go_step3
  go_wp2_with (first
    | (go_at_call 134; refine (C1.out _).mono ?_; rintro e w1 ⟨rfl, rfl⟩)
    | (go_at_call 135; refine (C2.out _).mono ?_; rintro e w1 ⟨rfl, rfl⟩))
  rw [Exit.noGoto_ret]
  go_ret2
  exact ⟨rfl, rfl⟩
theorem unq_close (q r1 r2 : ByteArray) (w : World)
    (C1 : ∀ w, Calls Tryz.prog 134 #[.string q, .string ⟨#[34]⟩] w fun e w' => e = .returned (.tuple #[.string r1, .bool true]) ∧ w' = w)
    (C2 : ∀ w, Calls Tryz.prog 135 #[.string r1, .string ⟨#[34]⟩] w fun e w' => e = .returned (.tuple #[.string r2, .bool false]) ∧ w' = w) :
    Calls Tryz.prog 83 #[.string q] w fun e w' => e = .returned (.tuple #[.string ⟨#[]⟩, .int .i64 4]) ∧ w' = w := by
  have C1 := Lib.hid C1
  have C2 := Lib.hid C2
  go_enter Tryz.func83, Tryz.ntmps83
  go_wp2
  go_step3
  go_wp2_with (first
    | (go_at_call 134; refine (C1.out _).mono ?_; rintro e w1 ⟨rfl, rfl⟩)
    | (go_at_call 135; refine (C2.out _).mono ?_; rintro e w1 ⟨rfl, rfl⟩))
  rw [Exit.noGoto_ret]
  go_ret2
  exact ⟨rfl, rfl⟩
theorem after_cut {t : ByteArray} {n : Nat} (h1 : 1 ≤ n) (h2 : n ≤ t.size) : (t.extract n t.size).size < t.size := by
  rw [← size_toList, Lib.extract_data, List.length_take, List.length_drop, size_toList]; omega
theorem ret_two {a b : List UInt8} {x y : Int} (h : (a, x) = (b, y)) : Ending.returned (.tuple #[.string ⟨a.toArray⟩, .int .i64 x]) = .returned (.tuple #[.string ⟨b.toArray⟩, .int .i64 y]) := by
  injection h with h1 h2; rw [h1, h2]
set_option maxHeartbeats 4000000 in
theorem unq_goes (q r1 r2 : ByteArray) (w : World) (h2 : r2.size ≤ 1048576) (S : List UInt8) (E : Int)
    (NO : Hid (readL r2.data.toList = none → ([], 4) = (S, E))) (FAR : Hid (∀ s, readL r2.data.toList = some s → 4096 < s.length → ([], 3) = (S, E))) (YES : Hid (∀ s, readL r2.data.toList = some s → s.length ≤ 4096 → (s, 0) = (S, E)))
    (C1 : Hid (∀ w, Calls Tryz.prog 134 #[.string q, .string ⟨#[34]⟩] w fun e w' => e = .returned (.tuple #[.string r1, .bool true]) ∧ w' = w))
    (C2 : Hid (∀ w, Calls Tryz.prog 135 #[.string r1, .string ⟨#[34]⟩] w fun e w' => e = .returned (.tuple #[.string r2, .bool true]) ∧ w' = w)) :
    Calls Tryz.prog 83 #[.string q] w fun e w' => e = .returned (.tuple #[.string ⟨S.toArray⟩, .int .i64 E]) ∧ Below w.heap.size w w' := by
  go_enter Tryz.func83, Tryz.ntmps83
  go_wp2
  refine wp_scope_jumps 0 (fun a' w' => ∃ (w1 : World) (m b : Nat) (rest : ByteArray) (acc : List UInt8) (u0 u1 u2 u3 u5 u6 u9 u10 u11 u12 u13 u14 u15 u16 u17 u18 u19 u20 u21 u22 u23 u24 u25 u26 u27 u28 u29 u30 u31 u32 u33 u34 u35 u36 u37 u38 u39 u40 u41 u42 u43 u44 u45 : Value), a' = { tmps := #[u0, u1, u2, u3, .string rest, u5, u6, .map (some m), .pointer (some ⟨b, 0, none⟩), u9, u10, u11, u12, u13, u14, u15, u16, u17, u18, u19, u20, u21, u22, u23, u24, u25, u26, u27, u28, u29, u30, u31, u32, u33, u34, u35, u36, u37, u38, u39, u40, u41, u42, u43, u44, u45], defers := [] } ∧ Hid (Rd w w1 m b r2.data.toList rest acc w')) (fun a' _ => (strOf (a'.tmps.getD 4 undef)).size) rfl ?_ ?_
  · go_wp2_with (first
      | (go_at_call 134; refine (C1.out _).mono ?_; rintro e w1 ⟨rfl, rfl⟩)
      | (go_at_call 135; refine (C2.out _).mono ?_; rintro e w1 ⟨rfl, rfl⟩)
      | (go_at_call 136; refine (bytes_dict _).mono ?_; rintro e w2 ⟨rfl, hd, hb⟩; have hR := Lib.hid (Rd.start hd hb h2)))
    go_step3
    by_cases h0 : r2.size = 0
    · have e0 := isEmpty_of h0
      have hm := Lib.hid (hR.out.some_ h0)
      by_cases hl : 4096 < (([] : List UInt8)).length
      · exact absurd hl (by decide)
      · have FIN := Lib.hid (ret_two (YES.out _ hm.out (by omega)))
        go_wp2_with (first
          | (go_at_call 139; refine hR.out.len.mono ?_; rintro e w3 ⟨rfl, rfl⟩)
          | (go_at_call 61; refine hR.out.string.mono ?_; rintro e w4 ⟨rfl, hb4⟩))
        simp only [Exit.jump]
        go_ret2
        exact ⟨FIN.out, hb4⟩
    · have e0 := not_isEmpty (t := r2) (by omega)
      have R := Lib.hid (hR.out.first (by omega))
      cases ho : oneL r2.data.toList with
      | none =>
        rw [ho] at R
        simp only [pairV] at R
        have FIN := Lib.hid (ret_two (NO.out (hR.out.none_ (by omega) ho)))
        go_wp2_with (go_at_call 137; refine R.out.mono ?_; rintro e w3 ⟨rfl, hR3⟩; replace hR3 := Lib.hid hR3)
        simp only [Exit.jump]
        go_ret2
        exact ⟨FIN.out, hR3.out.all⟩
      | some x =>
        obtain ⟨c, n⟩ := x
        rw [ho] at R
        simp only [pairV] at R
        have hp := oneL_pos ho
        rw [size_toList] at hp
        have hn : ((n : Int) == 0) = false := beq_eq_false_iff_ne.2 (by omega)
        go_wp2_with (first
          | (go_at_call 137; refine R.out.mono ?_; rintro e w3 ⟨rfl, hR3⟩; replace hR3 := Lib.hid hR3)
          | (go_at_call 138; refine (hR3.out.write ho).mono ?_; rintro e w4 ⟨rfl, hR4⟩; replace hR4 := Lib.hid hR4))
        go_step3
        exact ⟨rfl, _, _, _, _, _, _, _, _, _, _, _, _, _, _, _, _, _, _, _, _, _, _, _, _, _, _, _, _, _, _, _, _, _, _, _, _, _, _, _, _, _, _, _, _, _, _, _, _, rfl, hR4⟩
  · rintro a' w2 ⟨w1, m, b, rest, acc, u0, u1, u2, u3, u5, u6, u9, u10, u11, u12, u13, u14, u15, u16, u17, u18, u19, u20, u21, u22, u23, u24, u25, u26, u27, u28, u29, u30, u31, u32, u33, u34, u35, u36, u37, u38, u39, u40, u41, u42, u43, u44, u45, rfl, hR⟩
    by_cases h0 : rest.size = 0
    · have e0 := isEmpty_of h0
      have hm := Lib.hid (hR.out.some_ h0)
      by_cases hl : 4096 < (acc).length
      · have FIN := Lib.hid (ret_two (FAR.out _ hm.out hl))
        go_wp2_with (go_at_call 139; refine hR.out.len.mono ?_; rintro e w3 ⟨rfl, rfl⟩)
        simp only [Exit.jump]
        go_ret2
        exact ⟨FIN.out, hR.out.all⟩
      · have FIN := Lib.hid (ret_two (YES.out _ hm.out (by omega)))
        go_wp2_with (first
          | (go_at_call 139; refine hR.out.len.mono ?_; rintro e w3 ⟨rfl, rfl⟩)
          | (go_at_call 61; refine hR.out.string.mono ?_; rintro e w4 ⟨rfl, hb4⟩))
        simp only [Exit.jump]
        go_ret2
        exact ⟨FIN.out, hb4⟩
    · have e0 := not_isEmpty (t := rest) (by omega)
      have R := Lib.hid (hR.out.first (by omega))
      cases ho : oneL rest.data.toList with
      | none =>
        rw [ho] at R
        simp only [pairV] at R
        have FIN := Lib.hid (ret_two (NO.out (hR.out.none_ (by omega) ho)))
        go_wp2_with (go_at_call 137; refine R.out.mono ?_; rintro e w3 ⟨rfl, hR3⟩; replace hR3 := Lib.hid hR3)
        simp only [Exit.jump]
        go_ret2
        exact ⟨FIN.out, hR3.out.all⟩
      | some x =>
        obtain ⟨c, n⟩ := x
        rw [ho] at R
        simp only [pairV] at R
        have hp := oneL_pos ho
        rw [size_toList] at hp
        have hn : ((n : Int) == 0) = false := beq_eq_false_iff_ne.2 (by omega)
        go_wp2_with (first
          | (go_at_call 137; refine R.out.mono ?_; rintro e w3 ⟨rfl, hR3⟩; replace hR3 := Lib.hid hR3)
          | (go_at_call 138; refine (hR3.out.write ho).mono ?_; rintro e w4 ⟨rfl, hR4⟩; replace hR4 := Lib.hid hR4))
        go_step3
        refine ⟨rfl, ⟨_, _, _, _, _, _, _, _, _, _, _, _, _, _, _, _, _, _, _, _, _, _, _, _, _, _, _, _, _, _, _, _, _, _, _, _, _, _, _, _, _, _, _, _, _, _, _, _, rfl, hR4⟩, ?_⟩
        have := after_cut hp.1 hp.2.1
        simpa [strOf] using this
/-- quote.Unquote. -/
theorem Unquote_any (q : ByteArray) (w : World) (hs : q.size ≤ 1048576) :
    Calls Tryz.prog 83 #[.string q] w fun e w' => e = .returned (.tuple #[.string ⟨(unqL q.data.toList).1.toArray⟩, .int .i64 (unqL q.data.toList).2]) ∧ Below w.heap.size w w' := by
  obtain ⟨r1, e1⟩ : ∃ r1 : ByteArray, Lib.trimPrefix q.data.toList [34] = r1.data.toList := ⟨⟨(Lib.trimPrefix q.data.toList [34]).toArray⟩, by simp⟩
  have s1 : r1.size ≤ q.size := by
    have := Lib.trimPrefix_le q.data.toList [34]
    rw [e1, size_toList, size_toList] at this
    exact this
  obtain ⟨r2, e2⟩ : ∃ r2 : ByteArray, Lib.trimSuffix r1.data.toList [34] = r2.data.toList := ⟨⟨(Lib.trimSuffix r1.data.toList [34]).toArray⟩, by simp⟩
  have s2 : r2.size ≤ r1.size := by
    have := Lib.trimSuffix_le r1.data.toList [34]
    rw [e2, size_toList, size_toList] at this
    exact this
  have M := midL_cut q.data.toList
  rw [e1, e2] at M
  cases h1 : Lib.hasPrefix q.data.toList [34] with
  | false =>
    rw [h1, Bool.false_and, if_neg (by simp)] at M
    unfold unqL
    rw [M]
    exact (unq_open q r1 r2 _ w (fun w => cut1 q r1 _ w e1 h1) (fun w => cut2 r1 r2 _ w (by omega) e2 rfl)).mono fun e w' h => ⟨h.1, by rw [h.2]; exact Below.refl _ _⟩
  | true =>
    cases h2 : Lib.hasSuffix r1.data.toList [34] with
    | false =>
      rw [h1, h2, Bool.and_false, if_neg (by simp)] at M
      unfold unqL
      rw [M]
      exact (unq_close q r1 r2 w (fun w => cut1 q r1 _ w e1 h1) (fun w => cut2 r1 r2 _ w (by omega) e2 h2)).mono fun e w' h => ⟨h.1, by rw [h.2]; exact Below.refl _ _⟩
    | true =>
      rw [h1, h2, Bool.and_true, if_pos rfl] at M
      refine unq_goes q r1 r2 w (by omega) _ _ (Lib.hid fun h => ?_) (Lib.hid fun s h g => ?_) (Lib.hid fun s h g => ?_) (Lib.hid fun w => cut1 q r1 _ w e1 h1) (Lib.hid fun w => cut2 r1 r2 _ w (by omega) e2 h2)
      · unfold unqL; rw [M, Option.bind_some, h]; rfl
      · unfold unqL; rw [M, Option.bind_some, h]
        show _ = if 4096 < s.length then ([], 3) else (s, 0)
        rw [if_pos g]
      · unfold unqL; rw [M, Option.bind_some, h]
        show _ = if 4096 < s.length then ([], 3) else (s, 0)
        rw [if_neg (by omega)]
end Go.Proofs.YtoggkigfijgbfaaGreatDoor
namespace Go.Proofs.YtoggkigfijgbfaaGreatDoor
set_option maxRecDepth 20000
open Go.RowKit

theorem cells_new (w : World) (l : List Value) (E : TypeId) : ∀ j u, l[j]? = some u → (w.alloc (.cells l.toArray E)).cell? ((⟨w.heap.size, 0, none⟩ : Addr).add j) = some u := by
  intro j u hu
  have : (⟨w.heap.size, 0, none⟩ : Addr).add j = ⟨w.heap.size, j, none⟩ := by unfold Addr.add; split <;> simp_all
  rw [this]
  simp [go_sem, hu]
/-- A row of bytes of the call's own that a text is laid in. -/
structure Row (w : World) (v : Value) (l : List UInt8) (w' : World) : Prop where
  own : w'.ownsRow w.heap.size 5 1 v l.length (Lib.byteCells l)
  below : Below w.heap.size w w'
theorem Row.alloc {w w1 : World} {v : Value} {l : List UInt8} (h : Row w v l w1) (o : Obj) : Row w v l (w1.alloc o) := ⟨h.own.alloc o, h.below.alloc h.below.size o⟩
/-- Behind an append. -/
theorem Row.more {w w1 w2 : World} {v v2 : Value} {l m : List UInt8} {o : Obj} {k : Nat} (h : Row w v l w1) (hk : m.length = k) (ho : w2.ownsRow w.heap.size 5 1 v2 (l.length + k) (Lib.byteCells l ++ Lib.byteCells m)) (hg : (w1.alloc o).grownBy w2 v.ownBlock) : Row w v2 (l ++ m) w2 := by
  refine ⟨?_, (h.alloc o).below.grown hg (h.alloc o).below.size (fun k hk => (h.own.lt k hk).1)⟩
  rw [List.length_append, hk, Lib.byteCells_append]; exact ho
theorem beq_byte {c d : UInt8} (h : c = d) : ((c.toNat : Int) == (d.toNat : Int)) = true := by rw [h]; simp
theorem bne_byte {c d : UInt8} (h : c ≠ d) : ((c.toNat : Int) == (d.toNat : Int)) = false := by
  rw [beq_eq_false_iff_ne]; intro e; exact h (UInt8.toNat_inj.1 (by omega))
end Go.Proofs.YtoggkigfijgbfaaGreatDoor
namespace Go.Proofs.YtoggkigfijgbfaaGreatDoor
set_option maxRecDepth 20000
open Go.RowKit

end Go.Proofs.YtoggkigfijgbfaaGreatDoor
namespace Go.Proofs.YtoggkigfijgbfaaGreatDoor
set_option maxRecDepth 20000
open Go.RowKit

/-- The reading under way: acc was read, the rest of t from k on is to come. -/
structure Gone (w : World) (t : ByteArray) (k : Nat) (v : Value) (acc : List UInt8) (w' : World) : Prop where
  row : Row w v acc w'
  goes : readL t.data.toList = (readL (t.data.toList.drop k)).map (acc ++ ·)
  room : acc.length ≤ k
theorem drop_extract (t : ByteArray) (k : Nat) : (t.extract k t.size).data.toList = t.data.toList.drop k := by
  rw [Lib.extract_data, List.take_of_length_le (by rw [List.length_drop, size_toList]; omega)]
theorem Gone.next {w w1 w2 : World} {t : ByteArray} {k n : Nat} {v v2 : Value} {acc : List UInt8} {c : UInt8} {o : Obj} (h : Gone w t k v acc w1) (ho : oneL (t.data.toList.drop k) = some (c, n))
    (ho2 : w2.ownsRow w.heap.size 5 1 v2 (acc.length + 1) (Lib.byteCells acc ++ [.int .u8 c.toNat])) (hg : (w1.alloc o).grownBy w2 v.ownBlock) : Gone w t (k + n) v2 (acc ++ [c]) w2 := by
  refine ⟨h.row.more (m := [c]) rfl ho2 hg, ?_, ?_⟩
  · rw [h.goes, readL_some ho, List.drop_drop]
    cases readL (t.data.toList.drop (k + n)) with
    | none => rfl
    | some s => simp
  · have := oneL_pos ho; have := h.room; rw [List.length_append]; simp only [List.length_cons, List.length_nil]; omega
theorem Row.drewN {w w1 : World} {v : Value} {l : List UInt8} (h : Row w v l w1) (n : Nat) : Row w v l (w1.drewN n) := ⟨h.own, below_drewN h.below n⟩
theorem Gone.drewN {w w1 : World} {t : ByteArray} {k : Nat} {v : Value} {acc : List UInt8} (h : Gone w t k v acc w1) (n : Nat) : Gone w t k v acc (w1.drewN n) := ⟨h.row.drewN n, h.goes, h.room⟩
end Go.Proofs.YtoggkigfijgbfaaGreatDoor
