/- The two maps of quote: a map that reads as a plain function from bytes to bytes; the contracts of lettersOfBytes and bytesOfLetters (which is made of the other, in whatever order the range tells its entries). -/
import Derived.Test.YteoccfmhpakplaaGreatDoorBase
import Derived.Test.YteoccfmhpakplaaGreatDoorQuoteMath
import Derived.Maps.RangeWalk
import Derived.Maps.OwnSet
namespace Go.Proofs.YteoccfmhpakplaaGreatDoor
set_option maxRecDepth 20000
open Go.RowKit Go.Maps

theorem keyed : Keyed Tryz.prog 5 := int_keyed Tryz.underlying5
theorem zeroByte (w : World) : (zeroValue 5).run Tryz.prog w = .ok (.int .u8 0) w := by kernel_rfl
abbrev kB (x : UInt8) : Lit := .int .u8 x.toNat
abbrev vB (x : UInt8) : DataW Unit := .lit (.int .u8 x.toNat)
theorem wf_byte (x : UInt8) : (Lit.int .u8 x.toNat).wf = true := by
  have h := x.toNat_lt
  have e1 : IntKind.u8.min = 0 := rfl
  have e2 : IntKind.u8.max = 255 := rfl
  simp [Lit.wf, e1, e2]
  omega
theorem byte_of_wf {n : Int} (h : (Lit.int .u8 n).wf = true) : ∃ x : UInt8, n = x.toNat := by
  have h1 := of_wf_u8 h
  refine ⟨UInt8.ofNat n.toNat, ?_⟩
  rw [UInt8.toNat_ofNat']
  omega
theorem kB_key (x : UInt8) : WideAt.IsKeyLit (kB x) := trivial
theorem kB_inj {x y : UInt8} (h : kB x = kB y) : x = y := by
  simp only [kB, Lit.int.injEq, true_and] at h
  exact UInt8.toNat_inj.1 (by omega)
theorem kB_ne {x y : UInt8} (h : x ≠ y) : kB x ≠ kB y := fun e => h (kB_inj e)
theorem kB_same (x y : UInt8) : (kB x).sameKey (kB y) = (x == y) := by
  by_cases h : x = y
  · subst h; simp [Lit.sameKey]
  · have : (x == y) = false := beq_eq_false_iff_ne.2 h
    rw [this]; exact sameKey_ne (kB_ne h)
/-- A map as read that is the plain function f. -/
def IsFun (D : DataW Unit) (f : UInt8 → Option UInt8) : Prop :=
  ∀ x, has D (kB x) = (f x).isSome ∧ ∀ zd, D.atKey (kB x) zd = match f x with | some y => vB y | none => zd
theorem IsFun.some_ {D : DataW Unit} {f : UInt8 → Option UInt8} (h : IsFun D f) {x y : UInt8} (hy : f x = some y) : has D (kB x) = true ∧ ∀ zd, D.atKey (kB x) zd = vB y := by
  have h1 := h x; rw [hy] at h1; exact h1
theorem IsFun.none_ {D : DataW Unit} {f : UInt8 → Option UInt8} (h : IsFun D f) {x : UInt8} (hx : f x = none) : has D (kB x) = false ∧ ∀ zd, D.atKey (kB x) zd = zd := by
  have h1 := h x; rw [hx] at h1; exact h1
def putF (f : UInt8 → Option UInt8) (k v : UInt8) : UInt8 → Option UInt8 := fun x => if x = k then some v else f x
theorem isFun_empty : IsFun (.map []) fun _ => none := fun _ => ⟨rfl, fun _ => rfl⟩
theorem IsFun.put {D : DataW Unit} {f : UInt8 → Option UInt8} (h : IsFun D f) (hm : IsMap D) (k v : UInt8) : IsFun (D.put (kB k) (vB v)) (putF f k v) := by
  intro x
  unfold putF
  by_cases e : x = k
  · subst e
    rw [if_pos rfl]
    exact ⟨has_put_same hm (kB_key x) _, fun zd => atKey_put_same hm (kB_key x) _ _⟩
  · rw [if_neg e, has_put_other (kB_ne e)]
    exact ⟨(h x).1, fun zd => (atKey_put_other (kB_ne e) _ _).trans ((h x).2 zd)⟩
theorem IsFun.of_eq {D : DataW Unit} {f g : UInt8 → Option UInt8} (h : IsFun D f) (e : ∀ x, f x = g x) : IsFun D g := by
  have : f = g := funext e
  rw [← this]; exact h
theorem letters_eq (x : UInt8) : putF (putF (putF (putF (fun _ => none) 10 110) 9 116) 92 92) 34 34 x = letterO x := by
  unfold putF letterO
  by_cases h1 : x = 10
  · subst h1; rfl
  · by_cases h2 : x = 9
    · subst h2; rfl
    · by_cases h3 : x = 92
      · subst h3; rfl
      · by_cases h4 : x = 34
        · subst h4; rfl
        · simp [h1, h2, h3, h4]

/-- Block m is a map that is the function f. -/
def DictAt (w : World) (m : Nat) (f : UInt8 → Option UInt8) : Prop :=
  ∃ n D, n ≤ 4 ∧ w.ownsMap Tryz.prog 5 (plainElem Tryz.prog 5) m n D ∧ IsFun D f
theorem DictAt.lt {w : World} {m : Nat} {f : UInt8 → Option UInt8} (h : DictAt w m f) : m < w.heap.size := by
  obtain ⟨n, D, _, ho, _⟩ := h
  exact ho.lt
theorem DictAt.below {w w' : World} {m B : Nat} {f : UInt8 → Option UInt8} (h : DictAt w m f) (hb : Below B w w') (hm : m < B) : DictAt w' m f := by
  obtain ⟨n, D, hn, ho, hf⟩ := h
  obtain ⟨es, clock, he, r⟩ := ho
  exact ⟨n, D, hn, ⟨es, clock, (hb.block m hm).trans he, r⟩, hf⟩
theorem DictAt.alloc {w : World} {m : Nat} {f : UInt8 → Option UInt8} (h : DictAt w m f) (o : Obj) : DictAt (w.alloc o) m f := by
  obtain ⟨n, D, hn, ho, hf⟩ := h
  exact ⟨n, D, hn, ho.alloc o, hf⟩
/-- An element of a map that is written out, at the operation. -/
theorem wpList_insert_own {H : Type} {P : Program} (w : World) {ops : Array Oper} {rest : List Oper} {o : Oper} {a : Act} {Q : Exit → Act → World → Prop}
    (hg : o.guard = none) (m x v : Operand) (t : TypeId) (hop : o.op = Op.insert t m x v)
    (k e : TypeId) (K : Keyed P k) (ht : P.underlying t = some (.map k e)) (R : Value → Option (DataW H × List MemPlace)) (b n : Nat) (D : DataW H)
    (hm : a.eval m = .map (some b)) (hown : w.ownsMap P k R b n D) (hn : n < maxLen) (key val : Value) (kl : Lit) (hx : a.eval x = key) (hv : a.eval v = val) (hkey : keyOf P k key = some kl)
    (d : DataW H) (ps : List MemPlace) (hval : R val = some (d, ps))
    (hK : ∀ w', w'.ownsMap P k R b (n + 1) (D.put kl d) → w.grownBy w' (some b) → wpList P ops Q rest (a.put o.dst undef) w') :
    wpList P ops Q (o :: rest) a w := by
  refine wpList_plain hg fun K' hK' => ?_
  obtain ⟨w', hrun, r1, r2⟩ := hown.update K ht hn hkey hval
  unfold Oper.wp
  simp [execOp, hop, hm, hx, hv, hrun, Result.andThen]
  exact hK' _ _ (hK w' r1 r2)
set_option maxRecDepth 20000 in
/-- quote.lettersOfBytes. -/
theorem letters_any (w : World) :
    Calls Tryz.prog 28 #[] w fun e w' => e = .returned (.map (some w.heap.size)) ∧ w'.ownsMap Tryz.prog 5 (plainElem (H := Unit) Tryz.prog 5) w.heap.size 4 ((((((DataW.map []).put (kB 10) (vB 110)).put (kB 9) (vB 116)).put (kB 92) (vB 92)).put (kB 34) (vB 34))) ∧ Below w.heap.size w w' := by
  have hmm := @run_makeMap Tryz.prog
  have h0 : (w.alloc (.map #[] 0)).ownsMap Tryz.prog 5 (plainElem (H := Unit) Tryz.prog 5) w.heap.size 0 (.map []) := World.ownsMap_made _ _ _ _
  have b0 : Below w.heap.size w (w.alloc (.map #[] 0)) := (Below.refl _ _).alloc (Nat.le_refl _) _
  have hgrow : ∀ {wa wb : World}, Below w.heap.size w wa → wa.grownBy wb (some w.heap.size) → Below w.heap.size w wb := fun ha hb => ha.grown hb ha.size (fun j hj => by cases hj; exact Nat.le_refl _)
  go_enter Tryz.func28, Tryz.ntmps28
  go_wp2_with (refine wpList_insert_own _ rfl _ _ _ 62 rfl 5 5 keyed Tryz.underlying62 _ w.heap.size 0 _ rfl h0 (by decide) _ _ _ rfl rfl (keyOf_int_mk Tryz.underlying5 (wf_byte 10)) _ [] (plainElem_int Tryz.underlying5 (wf_byte 110)) ?_)
  intro w1 h1 g1
  have b1 := hgrow b0 g1
  go_wp2_with (refine wpList_insert_own _ rfl _ _ _ 62 rfl 5 5 keyed Tryz.underlying62 _ w.heap.size 1 _ rfl h1 (by decide) _ _ _ rfl rfl (keyOf_int_mk Tryz.underlying5 (wf_byte 9)) _ [] (plainElem_int Tryz.underlying5 (wf_byte 116)) ?_)
  intro w2 h2 g2
  have b2 := hgrow b1 g2
  go_wp2_with (refine wpList_insert_own _ rfl _ _ _ 62 rfl 5 5 keyed Tryz.underlying62 _ w.heap.size 2 _ rfl h2 (by decide) _ _ _ rfl rfl (keyOf_int_mk Tryz.underlying5 (wf_byte 92)) _ [] (plainElem_int Tryz.underlying5 (wf_byte 92)) ?_)
  intro w3 h3 g3
  have b3 := hgrow b2 g3
  go_wp2_with (refine wpList_insert_own _ rfl _ _ _ 62 rfl 5 5 keyed Tryz.underlying62 _ w.heap.size 3 _ rfl h3 (by decide) _ _ _ rfl rfl (keyOf_int_mk Tryz.underlying5 (wf_byte 34)) _ [] (plainElem_int Tryz.underlying5 (wf_byte 34)) ?_)
  intro w4 h4 g4
  have b4 := hgrow b3 g4
  go_wp2
  go_ret
  exact ⟨rfl, h4, b4⟩
end Go.Proofs.YteoccfmhpakplaaGreatDoor
