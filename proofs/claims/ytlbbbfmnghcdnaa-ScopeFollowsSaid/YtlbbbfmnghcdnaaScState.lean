/- The walk's struct, its functions and their locals in memory; each block of them has a tag, so that what is written is apart from all else. No walk. -/
import Derived.Test.YtlbbbfmnghcdnaaScMath
import Derived.Maps.OwnSet
import Derived.Deep.AppendLies
namespace Go.Proofs.Ytlbbbfmnghcdnaa
set_option maxRecDepth 20000
open Go.RowKit Go.Maps

/-- Whose a block is. -/
inductive Tag where
  | walk | fns
  | fn (n : Nat) | locs (n : Nat) | full (n : Nat) | named (n : Nat) | uses (n : Nat) | ups (n : Nat) | places (n : Nat)
  | loc (n i : Nat)
def Tag.no : Tag → Option Nat
  | .walk => none
  | .fns => none
  | .fn n => some n
  | .locs n => some n
  | .full n => some n
  | .named n => some n
  | .uses n => some n
  | .ups n => some n
  | .places n => some n
  | .loc n _ => some n
abbrev Own := Nat → Option Tag
def Own.put (T : Own) (b : Nat) (t : Tag) : Own := fun k => if k = b then some t else T k
theorem Own.put_same (T : Own) (b : Nat) (t : Tag) : T.put b t b = some t := if_pos rfl
theorem Own.put_other {T : Own} {b k : Nat} {t : Tag} (h : k ≠ b) : T.put b t k = T k := if_neg h
/-- All blocks but those whose tags are of S are as they were; what is new is besides. -/
structure Turn (S : Tag → Prop) (T : Own) (w : World) (T' : Own) (w' : World) : Prop where
  os : w'.os = w.os
  tape : w'.tape = w.tape
  output : w'.output = w.output
  size : w.heap.size ≤ w'.heap.size
  own : ∀ k, k < w.heap.size → T' k = T k
  block : ∀ k, k < w.heap.size → (∀ t, T k = some t → ¬ S t) → w'.heap[k]? = w.heap[k]?
theorem Turn.refl (S : Tag → Prop) (T : Own) (w : World) : Turn S T w T w := ⟨rfl, rfl, rfl, Nat.le_refl _, fun _ _ => rfl, fun _ _ _ => rfl⟩
theorem Turn.trans {S : Tag → Prop} {T0 T1 T2 : Own} {a b c : World} (h : Turn S T0 a T1 b) (k : Turn S T1 b T2 c) : Turn S T0 a T2 c :=
  ⟨k.os.trans h.os, k.tape.trans h.tape, k.output.trans h.output, Nat.le_trans h.size k.size, fun i hi => (k.own i (Nat.lt_of_lt_of_le hi h.size)).trans (h.own i hi),
   fun i hi hS => (k.block i (Nat.lt_of_lt_of_le hi h.size) (fun t ht => hS t (by rw [← h.own i hi]; exact ht))).trans (h.block i hi hS)⟩
theorem Turn.mono {S S' : Tag → Prop} {T T' : Own} {w w' : World} (h : Turn S T w T' w') (hS : ∀ t, S t → S' t) : Turn S' T w T' w' :=
  ⟨h.os, h.tape, h.output, h.size, h.own, fun k hk hT => h.block k hk (fun t ht hs => hT t ht (hS t hs))⟩
theorem Turn.drew {S : Tag → Prop} {T T' : Own} {w w' : World} (h : Turn S T w T' w') : Turn S T w T' w'.drew := ⟨h.os, h.tape, h.output, h.size, h.own, h.block⟩
theorem Turn.alloc {S : Tag → Prop} {T T' T'' : Own} {w w' : World} (h : Turn S T w T' w') (o : Obj) (hT : ∀ k, k < w'.heap.size → T'' k = T' k) : Turn S T w T'' (w'.alloc o) :=
  h.trans ⟨rfl, rfl, rfl, by simp, hT, fun k hk _ => Below.heap_alloc _ _ _ hk⟩
theorem Turn.setCell {S : Tag → Prop} {T T' : Own} {w w' : World} (h : Turn S T w T' w') {p : Addr} (hp : p.block < w'.heap.size → ∃ t, T' p.block = some t ∧ S t) (u : Value) : Turn S T w T' (w'.setCell p u) :=
  h.trans ⟨rfl, rfl, rfl, by simp [World.setCell], fun _ _ => rfl, fun k hk hS => Below.heap_setCell _ _ _ _ (fun e => by subst e; obtain ⟨t, h1, h2⟩ := hp hk; exact hS t h1 h2)⟩
theorem Turn.grown {S : Tag → Prop} {T T' T'' : Own} {w w' w'' : World} {row : Option Nat} (h : Turn S T w T' w') (hg : w'.grownBy w'' row) (hr : ∀ k, row = some k → ∃ t, T' k = some t ∧ S t) (hT : ∀ k, k < w'.heap.size → T'' k = T' k) : Turn S T w T'' w'' :=
  h.trans ⟨hg.os, hg.tape, hg.output, hg.size, hT, fun k hk hS => hg.block k hk (fun e => by obtain ⟨t, h1, h2⟩ := hr k e.symm; exact hS t h1 h2)⟩
/-- A cell of a block that is new. -/
theorem Turn.setNew {S : Tag → Prop} {T T' : Own} {w w' : World} (h : Turn S T w T' w') {p : Addr} (hp : w.heap.size ≤ p.block) (u : Value) : Turn S T w T' (w'.setCell p u) :=
  ⟨h.os, h.tape, h.output, by simpa [World.setCell] using h.size, h.own, fun k hk hS => (Below.heap_setCell _ _ _ _ (show k ≠ p.block by omega)).trans (h.block k hk hS)⟩
/-- What has no tag is as it was. -/
theorem Turn.free {S : Tag → Prop} {T T' : Own} {w w' : World} (h : Turn S T w T' w') {k : Nat} (hk : k < w.heap.size) (hT : T k = none) : w'.heap[k]? = w.heap[k]? := h.block k hk (fun t ht => by rw [hT] at ht; cases ht)
theorem Turn.below {S : Tag → Prop} {T T' : Own} {w w' : World} {lo : Nat} (h : Turn S T w T' w') (hlo : lo ≤ w.heap.size) (hT : ∀ k, k < lo → T k = none) : Below lo w w' :=
  ⟨h.os, h.tape, h.output, h.size, fun k hk => h.free (by omega) (hT k hk)⟩
theorem Turn.cell_free {S : Tag → Prop} {T T' : Own} {w w' : World} (h : Turn S T w T' w') {a : Addr} {v : Value} (hv : w.cell? a = some v) (hT : T a.block = none) : w'.cell? a = some v :=
  (World.cell?_of_block (h.free (World.block_lt_of_cell? w a hv) hT)).trans hv

theorem row_keep {w w' : World} {lo : Nat} {e : TypeId} {size n : Nat} {v : Value} {xs : List Value} (h : w.ownsRow lo e size v n xs) (hk : ∀ k, v.ownBlock = some k → w'.heap[k]? = w.heap[k]?) : w'.ownsRow lo e size v n xs := by
  refine ⟨h.1, ?_⟩
  rcases h.2 with h2 | ⟨g, cap, cur, rfl, b, c, d⟩
  · exact .inl h2
  · exact .inr ⟨g, cap, cur, rfl, b, (hk g rfl).trans c, d⟩
/-- A row's beginning. -/
theorem row_take {w : World} {lo : Nat} {e : TypeId} {n cap : Nat} {g : Nat} {xs : List Value} (h : w.ownsRow lo e 1 (.slice (some ⟨g, 0, none⟩) n cap) n xs) {m : Nat} (hm : m ≤ n) : w.ownsRow lo e 1 (.slice (some ⟨g, 0, none⟩) m cap) m (xs.take m) := by
  obtain ⟨h1, h2⟩ := h
  rcases h2 with ⟨h2, _⟩ | ⟨g', cap', cur, e1, b, c, d1, d2, d3, d4⟩
  · cases h2
  · injection e1 with e1 _ e2
    injection e1 with e1
    injection e1 with e1
    subst e1; subst e2
    refine ⟨by rw [List.length_take, h1]; omega, .inr ⟨g, cap, cur, rfl, b, c, by omega, d2, d3, ?_⟩⟩
    rw [← d4, List.take_take]
    congr 1
    omega
theorem row_cell {w : World} {lo : Nat} {e : TypeId} {size n cap : Nat} {g : Nat} {xs : List Value} (h : w.ownsRow lo e size (.slice (some ⟨g, 0, none⟩) n cap) n xs) {j : Nat} {u : Value} (hu : xs[j]? = some u) : w.cell? ⟨g, j, none⟩ = some u := by
  have := h.cells (g := g) rfl j u hu
  have e : (⟨g, 0, none⟩ : Addr).add j = ⟨g, j, none⟩ := by unfold Addr.add; split <;> simp_all
  rwa [e] at this
/-- What a value that owns a row looks like. -/
theorem row_form {w : World} {lo : Nat} {e : TypeId} {size n : Nat} {v : Value} {xs : List Value} (h : w.ownsRow lo e size v n xs) : (v = .slice none 0 0 ∧ n = 0) ∨ ∃ g cap, v = .slice (some ⟨g, 0, none⟩) n cap ∧ g < w.heap.size ∧ n ≤ cap ∧ cap ≤ maxLen := by
  rcases h.2 with h | ⟨g, cap, cur, rfl, hb, hg, hn, hm, _⟩
  · exact .inl h
  · refine .inr ⟨g, cap, rfl, ?_, hn, hm⟩
    rcases Nat.lt_or_ge g w.heap.size with hlt | hge
    · exact hlt
    · rw [Array.getElem?_eq_none hge] at hg; cases hg

/-! Maps -/
theorem map_keep {H : Type} {P : Program} {k : TypeId} {R : Value → Option (DataW H × List MemPlace)} {w w' : World} {m n : Nat} {D : DataW H} (h : w.ownsMap P k R m n D) (hb : w'.heap[m]? = w.heap[m]?) : w'.ownsMap P k R m n D := by
  obtain ⟨es, clock, he, r⟩ := h
  exact ⟨es, clock, hb.trans he, r⟩
theorem keyedS : Keyed Try.prog 9 := string_keyed Try.underlying9
theorem keyS (s : List UInt8) (hs : s.length ≤ 1099511627776) : keyOf Try.prog 9 (sV s) = some (.string s) := by
  rw [keyOf_string Try.underlying9]
  have h1 : (⟨s.toArray⟩ : ByteArray).size = s.length := by show s.toArray.size = _; simp
  simp [mapKey, Try.underlying9, h1]
  unfold maxLen; omega
theorem zeroI (w : World) : (zeroValue 3).run Try.prog w = .ok (.int .i64 0) w := by kernel_rfl
theorem zeroL (w : World) : (zeroValue 101).run Try.prog w = .ok (.pointer none) w := by kernel_rfl
/-- How a pointer to a block's beginning reads. -/
def ptrR : Value → Option (DataW Unit × List MemPlace)
  | .pointer none => some (.lit (.int .i64 0), [])
  | .pointer (some a) => if a = ⟨a.block, 0, none⟩ then some (.lit (.int .i64 (a.block + 1)), []) else none
  | _ => none
def encP : Option Nat → DataW Unit
  | none => .lit (.int .i64 0)
  | some b => .lit (.int .i64 (b + 1))
def ptrO : Option Nat → Value
  | none => .pointer none
  | some b => pV b
theorem ptrR_ptrO (o : Option Nat) : ptrR (ptrO o) = some (encP o, []) := by
  cases o with
  | none => rfl
  | some b => simp [ptrO, ptrR, encP]
theorem ptrR_inv {v : Value} {o : Option Nat} {ps : List MemPlace} (h : ptrR v = some (encP o, ps)) : v = ptrO o := by
  unfold ptrR at h
  split at h
  · cases o with
    | none => rfl
    | some b => simp [encP] at h; omega
  · rename_i a
    split at h
    · rename_i ha
      cases o with
      | none => simp [encP] at h; omega
      | some b =>
        simp [encP] at h
        have : a.block = b := by omega
        rw [ptrO, ha, this]
    · cases h
  · cases h
/-- Block m is a map from names to pointers. -/
def MapP (w : World) (m n : Nat) (f : List UInt8 → Option Nat) : Prop :=
  ∃ D, w.ownsMap Try.prog 9 ptrR m n D ∧ ∀ s, D.atKey (.string s) (encP none) = encP (f s)
/-- .. from names to places. -/
def MapI (w : World) (m n : Nat) (f : List UInt8 → Option Nat) : Prop :=
  ∃ D : DataW Unit, w.ownsMap Try.prog 9 (plainElem Try.prog 3) m n D ∧ ∀ s, has D (.string s) = (f s).isSome ∧ ∀ zd, D.atKey (.string s) zd = match f s with | some p => .lit (.int .i64 p) | none => zd
theorem MapP.keep {w w' : World} {m n : Nat} {f : List UInt8 → Option Nat} (h : MapP w m n f) (hb : w'.heap[m]? = w.heap[m]?) : MapP w' m n f := by
  obtain ⟨D, ho, hf⟩ := h
  exact ⟨D, map_keep ho hb, hf⟩
theorem MapI.keep {w w' : World} {m n : Nat} {f : List UInt8 → Option Nat} (h : MapI w m n f) (hb : w'.heap[m]? = w.heap[m]?) : MapI w' m n f := by
  obtain ⟨D, ho, hf⟩ := h
  exact ⟨D, map_keep ho hb, hf⟩
theorem MapP.lt {w : World} {m n : Nat} {f : List UInt8 → Option Nat} (h : MapP w m n f) : m < w.heap.size := by obtain ⟨D, ho, _⟩ := h; exact ho.lt
theorem MapI.lt {w : World} {m n : Nat} {f : List UInt8 → Option Nat} (h : MapI w m n f) : m < w.heap.size := by obtain ⟨D, ho, _⟩ := h; exact ho.lt
theorem MapP.made (w : World) : MapP (w.alloc (.map #[] 0)) w.heap.size 0 fun _ => none := ⟨_, World.ownsMap_made _ _ _ _, fun _ => rfl⟩
theorem MapI.made (w : World) : MapI (w.alloc (.map #[] 0)) w.heap.size 0 fun _ => none := ⟨_, World.ownsMap_made _ _ _ _, fun _ => ⟨rfl, fun _ => rfl⟩⟩
theorem MapP.look {w : World} {m n : Nat} {f : List UInt8 → Option Nat} (h : MapP w m n f) (s : List UInt8) (hs : s.length ≤ 1099511627776) : (Instr.lookup 93 (.map (some m)) (sV s) false).run Try.prog w = .ok (ptrO (f s)) w := by
  obtain ⟨D, ho, hf⟩ := h
  obtain ⟨v, ps, hrun, hv⟩ := ho.lookup keyedS Try.underlying93 (zeroL w) (zd := encP none) (zp := []) rfl (keyS s hs)
  rw [hf s] at hv
  rw [hrun, ptrR_inv hv]
theorem MapI.look {w : World} {m n : Nat} {f : List UInt8 → Option Nat} (h : MapI w m n f) (s : List UInt8) (hs : s.length ≤ 1099511627776) : (Instr.lookup 97 (.map (some m)) (sV s) true).run Try.prog w = .ok (.tuple #[iV ((f s).getD 0), .bool (f s).isSome]) w := by
  obtain ⟨D, ho, hf⟩ := h
  obtain ⟨v, ps, hrun, hv⟩ := ho.look_ok keyedS Try.underlying97 (zeroI w) (zd := .lit (.int .i64 0)) (zp := []) (plainElem_int Try.underlying3 (by decide)) (keyS s hs)
  obtain ⟨c, rfl, hc, _⟩ := plainElem_int_inv Try.underlying3 hv
  rw [(hf s).1] at hrun
  rw [hrun]
  have := (hf s).2 (.lit (.int .i64 0))
  simp only [Prod.mk.injEq] at hc
  rw [hc.1] at this
  cases hh : f s with
  | none => rw [hh] at this; simp only [DataW.lit.injEq, Lit.int.injEq, true_and] at this; rw [this]; rfl
  | some p => rw [hh] at this; simp only [DataW.lit.injEq, Lit.int.injEq, true_and] at this; rw [this]; rfl
def putN (f : List UInt8 → Option Nat) (s : List UInt8) (o : Option Nat) : List UInt8 → Option Nat := fun x => if x = s then o else f x
theorem ne_key {s t : List UInt8} (h : s ≠ t) : (Lit.string s) ≠ .string t := fun e => h (by injection e)
/-- Where a map is written: how it reads then. -/
theorem MapP.put {w' : World} {m n : Nat} {D : DataW Unit} {f : List UInt8 → Option Nat} {s : List UInt8} {o : Option Nat} (hm : IsMap D) (hf : ∀ s, D.atKey (.string s) (encP none) = encP (f s)) (ho : w'.ownsMap Try.prog 9 ptrR m n (D.put (.string s) (encP o))) : MapP w' m n (putN f s o) := by
  refine ⟨_, ho, fun x => ?_⟩
  unfold putN
  by_cases e : x = s
  · subst e; rw [if_pos rfl]; exact atKey_put_same hm (show WideAt.IsKeyLit (.string x) from trivial) _ _
  · rw [if_neg e]; exact (atKey_put_other (ne_key e) _ _).trans (hf x)
theorem MapI.put {w' : World} {m n : Nat} {D : DataW Unit} {f : List UInt8 → Option Nat} {s : List UInt8} {p : Nat} (hm : IsMap D) (hf : ∀ s, has D (.string s) = (f s).isSome ∧ ∀ zd, D.atKey (.string s) zd = match f s with | some p => .lit (.int .i64 p) | none => zd) (ho : w'.ownsMap Try.prog 9 (plainElem Try.prog 3) m n (D.put (.string s) (.lit (.int .i64 p)))) : MapI w' m n (putN f s (some p)) := by
  refine ⟨_, ho, fun x => ?_⟩
  unfold putN
  by_cases e : x = s
  · subst e; rw [if_pos rfl]
    exact ⟨has_put_same hm (show WideAt.IsKeyLit (.string x) from trivial) _, fun zd => atKey_put_same hm (show WideAt.IsKeyLit (.string x) from trivial) _ _⟩
  · rw [if_neg e, has_put_other (ne_key e)]
    exact ⟨(hf x).1, fun zd => (atKey_put_other (ne_key e) _ _).trans ((hf x).2 zd)⟩
theorem MapP.run_put {w : World} {m n : Nat} {f : List UInt8 → Option Nat} (h : MapP w m n f) (hn : n < maxLen) (s : List UInt8) (hs : s.length ≤ 1099511627776) (o : Option Nat) :
    ∃ w', (Instr.mapUpdate 93 (.map (some m)) (sV s) (ptrO o)).run Try.prog w = .ok () w' ∧ MapP w' m (n + 1) (putN f s o) ∧ w.grownBy w' (some m) := by
  obtain ⟨D, ho, hf⟩ := h
  have hm := ho.isMap
  obtain ⟨w', hrun, r1, r2⟩ := ho.update keyedS Try.underlying93 hn (keyS s hs) (ptrR_ptrO o)
  exact ⟨w', hrun, MapP.put hm hf r1, r2⟩
theorem wf_i64 {p : Nat} (h : p ≤ 1099511627776) : (Lit.int .i64 (p : Int)).wf = true := by
  have e1 : IntKind.i64.min = -9223372036854775808 := rfl
  have e2 : IntKind.i64.max = 9223372036854775807 := rfl
  simp [Lit.wf, e1, e2]; omega
theorem MapI.run_put {w : World} {m n : Nat} {f : List UInt8 → Option Nat} (h : MapI w m n f) (hn : n < maxLen) (s : List UInt8) (hs : s.length ≤ 1099511627776) (p : Nat) (hp : p ≤ 1099511627776) :
    ∃ w', (Instr.mapUpdate 97 (.map (some m)) (sV s) (iV p)).run Try.prog w = .ok () w' ∧ MapI w' m (n + 1) (putN f s (some p)) ∧ w.grownBy w' (some m) := by
  obtain ⟨D, ho, hf⟩ := h
  have hm := ho.isMap
  obtain ⟨w', hrun, r1, r2⟩ := ho.update keyedS Try.underlying97 hn (keyS s hs) (plainElem_int Try.underlying3 (wf_i64 hp))
  exact ⟨w', hrun, MapI.put hm hf r1, r2⟩

/-! A function -/
/-- Where a function lies: its block, its locals' blocks, its rows and maps. -/
structure Gh where
  b : Nat
  L : Nat → Nat
  vl : Value
  vf : Value
  vu : Value
  vp : Value
  m : Nat
  q : Nat
  nm : Nat
  nq : Nat
structure LocC (w : World) (b : Nat) (l : LocS) (h : Value) : Prop where
  c0 : w.cell? ⟨b, 0, none⟩ = some (iV l.reg)
  c1 : w.cell? ⟨b, 1, none⟩ = some (.bool l.boxed)
  c2 : w.cell? ⟨b, 2, none⟩ = some (sV l.name)
  c3 : w.cell? ⟨b, 3, none⟩ = some h
  warm : ∀ o, w.frozen? ⟨b, o, none⟩ = false
theorem LocC.keep {w w' : World} {b : Nat} {l : LocS} {h : Value} (hc : LocC w b l h) (hb : w'.heap[b]? = w.heap[b]?) : LocC w' b l h := by
  have H : ∀ o, w'.cell? ⟨b, o, none⟩ = w.cell? ⟨b, o, none⟩ := fun o => World.cell?_of_block (a := ⟨b, o, none⟩) hb
  have F : ∀ o, w'.frozen? ⟨b, o, none⟩ = w.frozen? ⟨b, o, none⟩ := fun o => World.frozen?_of_block (a := ⟨b, o, none⟩) hb
  exact ⟨(H 0).trans hc.c0, (H 1).trans hc.c1, (H 2).trans hc.c2, (H 3).trans hc.c3, fun o => (F o).trans (hc.warm o)⟩
theorem LocC.lt {w : World} {b : Nat} {l : LocS} {h : Value} (hc : LocC w b l h) : b < w.heap.size := World.block_lt_of_cell? w _ hc.c0
def ownP (L : Nat → Nat) (o : Option Nat) : Value := ptrO (o.map L)
def useC (L : Nat → Nat) (u : UseS) : List Value := [iV u.at_, iV u.index, .bool false, ownP L u.own]
def upC (u : UpS) : List Value := [.bool u.loc, iV u.index]
def locV (L : Nat → Nat) (k : Nat) : List Value := (List.range k).map fun i => pV (L i)
theorem row_lt {w : World} {lo : Nat} {e : TypeId} {size n : Nat} {v : Value} {xs : List Value} (h : w.ownsRow lo e size v n xs) {k : Nat} (hk : v.ownBlock = some k) : k < w.heap.size := (h.lt k hk).2
/-- A row whose block has a tag. -/
structure RowC (w : World) (T : Own) (lo : Nat) (e : TypeId) (size : Nat) (v : Value) (n : Nat) (xs : List Value) (t : Tag) : Prop where
  row : w.ownsRow lo e size v n xs
  tag : ∀ k, v.ownBlock = some k → T k = some t
theorem RowC.keep {w w' : World} {T T' : Own} {lo : Nat} {e : TypeId} {size n : Nat} {v : Value} {xs : List Value} {t : Tag} (h : RowC w T lo e size v n xs t) (hk : ∀ k, k < w.heap.size → T k = some t → w'.heap[k]? = w.heap[k]? ∧ T' k = T k) : RowC w' T' lo e size v n xs t :=
  ⟨row_keep h.row fun k hv => (hk k (row_lt h.row hv) (h.tag k hv)).1, fun k hv => (hk k (row_lt h.row hv) (h.tag k hv)).2.trans (h.tag k hv)⟩
theorem RowC.nil (w : World) (T : Own) (lo : Nat) (e : TypeId) (size : Nat) (t : Tag) : RowC w T lo e size (.slice none 0 0) 0 [] t := ⟨World.ownsRow_nil _ _ _ _, fun k hk => by simp [Value.ownBlock] at hk⟩
/-- Behind an append. -/
theorem RowC.more {w w' : World} {T : Own} {lo : Nat} {e : TypeId} {size n m cap r : Nat} {v : Value} {xs ys : List Value} {t : Tag} (_ : RowC w T lo e size v n xs t) (ho : w'.ownsRow lo e size (.slice (some ⟨r, 0, none⟩) m cap) m ys) : RowC w' (T.put r t) lo e size (.slice (some ⟨r, 0, none⟩) m cap) m ys t :=
  ⟨ho, fun k hk => by have e : r = k := by simpa [Value.ownBlock] using hk
                      subst e; exact Own.put_same _ _ _⟩
/-- The locals' own cells. -/
structure LocsC (w : World) (T : Own) (n : Nat) (L : Nat → Nat) (ls : List LocS) (full : List Nat) : Prop where
  loc : ∀ i l, ls[i]? = some l → T (L i) = some (.loc n i) ∧ ∃ h, LocC w (L i) l h
  hides : ∀ j i, full[j]? = some i → w.cell? ⟨L i, 3, none⟩ = some (ownP L (namedIn ls (ls.getD i default).name (full.take j)))
  lt : ∀ i, i ∈ full → i < ls.length
theorem LocsC.keep {w w' : World} {T T' : Own} {n : Nat} {L : Nat → Nat} {ls : List LocS} {full : List Nat} (h : LocsC w T n L ls full) (hk : ∀ k i, k < w.heap.size → T k = some (.loc n i) → w'.heap[k]? = w.heap[k]? ∧ T' k = T k) : LocsC w' T' n L ls full where
  loc := fun i l hi => by
    obtain ⟨h1, x, h2⟩ := h.loc i l hi
    have := hk _ _ h2.lt h1
    exact ⟨this.2.trans h1, x, h2.keep this.1⟩
  hides := fun j i hi => by
    obtain ⟨h1, x, h2⟩ := h.loc i _ (List.getElem?_eq_getElem (h.lt i (List.mem_of_getElem? hi)))
    exact (World.cell?_of_block (a := ⟨L i, 3, none⟩) (hk _ _ h2.lt h1).1).trans (h.hides j i hi)
  lt := h.lt
/-- A function's own cells. -/
structure HeadC (w : World) (T : Own) (n : Nat) (g : Gh) : Prop where
  tb : T g.b = some (.fn n)
  c0 : w.cell? ⟨g.b, 0, none⟩ = some g.vl
  c1 : w.cell? ⟨g.b, 1, none⟩ = some g.vf
  c2 : w.cell? ⟨g.b, 2, none⟩ = some (.map (some g.m))
  c5 : w.cell? ⟨g.b, 5, none⟩ = some g.vu
  c6 : w.cell? ⟨g.b, 6, none⟩ = some g.vp
  c7 : w.cell? ⟨g.b, 7, none⟩ = some (.map (some g.q))
  warm : ∀ o, w.frozen? ⟨g.b, o, none⟩ = false
theorem HeadC.lt {w : World} {T : Own} {n : Nat} {g : Gh} (h : HeadC w T n g) : g.b < w.heap.size := World.block_lt_of_cell? w _ h.c0
theorem HeadC.keep {w w' : World} {T T' : Own} {n : Nat} {g : Gh} (h : HeadC w T n g) (hk : w'.heap[g.b]? = w.heap[g.b]? ∧ T' g.b = T g.b) : HeadC w' T' n g := by
  have H : ∀ o, w'.cell? ⟨g.b, o, none⟩ = w.cell? ⟨g.b, o, none⟩ := fun o => World.cell?_of_block (a := ⟨g.b, o, none⟩) hk.1
  have F : ∀ o, w'.frozen? ⟨g.b, o, none⟩ = w.frozen? ⟨g.b, o, none⟩ := fun o => World.frozen?_of_block (a := ⟨g.b, o, none⟩) hk.1
  exact ⟨hk.2.trans h.tb, (H 0).trans h.c0, (H 1).trans h.c1, (H 2).trans h.c2, (H 5).trans h.c5, (H 6).trans h.c6, (H 7).trans h.c7, fun o => (F o).trans (h.warm o)⟩
structure FnAt (w : World) (T : Own) (lo n : Nat) (g : Gh) (f : FnS) : Prop where
  hd : HeadC w T n g
  rl : RowC w T lo 101 1 g.vl f.locals.length (locV g.L f.locals.length) (.locs n)
  rf : RowC w T lo 101 1 g.vf f.full.length (f.full.map fun i => pV (g.L i)) (.full n)
  ls : LocsC w T n g.L f.locals f.full
  map : MapP w g.m g.nm fun s => (f.named s).map g.L
  tm : T g.m = some (.named n)
  ru : RowC w T lo 103 4 g.vu f.uses.length (f.uses.flatMap (useC g.L)) (.uses n)
  rp : RowC w T lo 42 2 g.vp f.ups.length (f.ups.flatMap upC) (.ups n)
  places : MapI w g.q g.nq fun s => placeIn s f.ups
  tq : T g.q = some (.places n)
  own_lt : ∀ u, u ∈ f.uses → ∀ i, u.own = some i → i < f.locals.length
  len_l : f.locals.length ≤ 1048576
  len_f : f.full.length ≤ 100
  len_u : f.uses.length ≤ 1048576
  len_p : f.ups.length ≤ 60
  len_m : g.nm + f.full.length ≤ 2 * f.locals.length
  len_q : g.nq ≤ f.ups.length
  short : ∀ l, l ∈ f.locals → l.name.length ≤ 1099511627776
theorem FnAt.b_lt {w : World} {T : Own} {lo n : Nat} {g : Gh} {f : FnS} (h : FnAt w T lo n g f) : g.b < w.heap.size := h.hd.lt
/-- A function stays what it is where none of its blocks is touched. -/
theorem FnAt.keep {w w' : World} {T T' : Own} {lo n : Nat} {g : Gh} {f : FnS} (h : FnAt w T lo n g f) (hk : ∀ k t, k < w.heap.size → T k = some t → t.no = some n → w'.heap[k]? = w.heap[k]? ∧ T' k = T k) : FnAt w' T' lo n g f := by
  have km := hk g.m _ h.map.lt h.tm rfl
  have kq := hk g.q _ h.places.lt h.tq rfl
  exact { h with
    hd := h.hd.keep (hk g.b _ h.b_lt h.hd.tb rfl)
    rl := h.rl.keep fun k h1 h2 => hk k _ h1 h2 rfl
    rf := h.rf.keep fun k h1 h2 => hk k _ h1 h2 rfl
    ls := h.ls.keep fun k i h1 h2 => hk k _ h1 h2 rfl
    map := h.map.keep km.1, tm := km.2.trans h.tm
    ru := h.ru.keep fun k h1 h2 => hk k _ h1 h2 rfl
    rp := h.rp.keep fun k h1 h2 => hk k _ h1 h2 rfl
    places := h.places.keep kq.1, tq := kq.2.trans h.tq }
def curV (G : Nat → Gh) : List Nat → Value
  | [] => .pointer none
  | n :: _ => pV (G n).b
def fnsV (G : Nat → Gh) (k : Nat) : List Value := (List.range k).map fun n => pV (G n).b
/-- The walk, all of it. -/
structure WAt (w : World) (T : Own) (lo p : Nat) (G : Nat → Gh) (vn : Value) (st : StS) : Prop where
  tag : T p = some .walk
  c0 : w.cell? ⟨p, 0, none⟩ = some (curV G st.stack)
  c1 : w.cell? ⟨p, 1, none⟩ = some vn
  c2 : w.cell? ⟨p, 2, none⟩ = some (iV st.parts)
  warm : ∀ o, w.frozen? ⟨p, o, none⟩ = false
  rn : RowC w T lo 68 1 vn st.fns.length (fnsV G st.fns.length) .fns
  fn : ∀ n f, st.fns[n]? = some f → FnAt w T lo n (G n) f
  chain : ∀ pre n rest, st.stack = pre ++ n :: rest → n < st.fns.length ∧ w.cell? ⟨(G n).b, 3, none⟩ = some (curV G rest)
  sorted : st.stack.Pairwise (· > ·)
  base : lo ≤ w.heap.size
  old : ∀ k, k < lo → T k = none
  fresh : ∀ k, w.heap.size ≤ k → T k = none
  parts : st.parts ≤ 65536
  many : st.fns.length ≤ 256
theorem WAt.p_lt {w : World} {T : Own} {lo p : Nat} {G : Nat → Gh} {vn : Value} {st : StS} (h : WAt w T lo p G vn st) : p < w.heap.size := World.block_lt_of_cell? w _ h.c0
theorem WAt.drew {w : World} {T : Own} {lo p : Nat} {G : Nat → Gh} {vn : Value} {st : StS} (h : WAt w T lo p G vn st) : WAt w.drew T lo p G vn st := by
  have K : ∀ n f, FnAt w T lo n (G n) f → FnAt w.drew T lo n (G n) f := fun n f hf => hf.keep fun _ _ _ _ _ => ⟨rfl, rfl⟩
  exact ⟨h.tag, h.c0, h.c1, h.c2, h.warm, h.rn.keep fun _ _ _ => ⟨rfl, rfl⟩, fun n f hn => K n f (h.fn n f hn), h.chain, h.sorted, h.base, h.old, h.fresh, h.parts, h.many⟩
/-- The walk stays what it is where none of its blocks is touched; what is new may have any tag. -/
theorem WAt.keepT {w w' : World} {T T' : Own} {lo p : Nat} {G : Nat → Gh} {vn : Value} {st : StS} (h : WAt w T lo p G vn st) (hs : w.heap.size ≤ w'.heap.size) (hb : ∀ k t, k < w.heap.size → T k = some t → w'.heap[k]? = w.heap[k]?) (hT : ∀ k, k < w.heap.size → T' k = T k) (hf : ∀ k, w'.heap.size ≤ k → T' k = none) : WAt w' T' lo p G vn st := by
  have hp := h.p_lt
  have Bp := hb p _ hp h.tag
  have H : ∀ o, w'.cell? ⟨p, o, none⟩ = w.cell? ⟨p, o, none⟩ := fun o => World.cell?_of_block (a := ⟨p, o, none⟩) Bp
  refine ⟨(hT p hp).trans h.tag, (H 0).trans h.c0, (H 1).trans h.c1, (H 2).trans h.c2, fun o => (World.frozen?_of_block (a := ⟨p, o, none⟩) Bp).trans (h.warm o), h.rn.keep fun k hk h1 => ⟨hb k _ hk h1, hT k hk⟩,
    fun n f hn => (h.fn n f hn).keep fun k t hk h1 _ => ⟨hb k t hk h1, hT k hk⟩, fun pre n rest e => ?_, h.sorted, Nat.le_trans h.base hs, fun k hk => (hT k (Nat.lt_of_lt_of_le hk h.base)).trans (h.old k hk), hf, h.parts, h.many⟩
  obtain ⟨h1, h2⟩ := h.chain pre n rest e
  have hF := h.fn n _ (List.getElem?_eq_getElem h1)
  exact ⟨h1, (World.cell?_of_block (a := ⟨(G n).b, 3, none⟩) (hb _ _ hF.b_lt hF.hd.tb)).trans h2⟩
theorem WAt.keep {w w' : World} {T T' : Own} {lo p : Nat} {G : Nat → Gh} {vn : Value} {st : StS} (h : WAt w T lo p G vn st) (ht : Turn (fun _ => False) T w T' w') (hf : ∀ k, w'.heap.size ≤ k → T' k = none) : WAt w' T' lo p G vn st :=
  h.keepT ht.size (fun k _ hk _ => ht.block k hk fun _ _ h => h) ht.own hf
/-- A cell of a block that is no part of the walk. -/
theorem WAt.setFree {w : World} {T : Own} {lo p b : Nat} {G : Nat → Gh} {vn : Value} {st : StS} (h : WAt w T lo p G vn st) (hb : T b = none) (i : Nat) (v : Value) : WAt (w.setCell ⟨b, i, none⟩ v) T lo p G vn st :=
  h.keepT (by simp [World.setCell]) (fun k t _ h1 => Below.heap_setCell _ _ _ _ (show k ≠ b from fun e => by subst e; rw [hb] at h1; cases h1)) (fun _ _ => rfl) fun k hk => h.fresh k (by simpa [World.setCell] using hk)
/-- A block that is no part of the walk. -/
theorem WAt.alloc {w : World} {T : Own} {lo p : Nat} {G : Nat → Gh} {vn : Value} {st : StS} (h : WAt w T lo p G vn st) (o : Obj) : WAt (w.alloc o) T lo p G vn st :=
  h.keep ((Turn.refl _ _ _).alloc _ fun _ _ => rfl) fun k hk => h.fresh k (by simp at hk; omega)
def updG (G : Nat → Gh) (n : Nat) (g : Gh) : Nat → Gh := fun k => if k = n then g else G k
theorem updG_same (G : Nat → Gh) (n : Nat) (g : Gh) : updG G n g n = g := if_pos rfl
theorem updG_other {G : Nat → Gh} {n k : Nat} {g : Gh} (h : k ≠ n) : updG G n g k = G k := if_neg h
theorem updG_b {G : Nat → Gh} {n : Nat} {g : Gh} (h : g.b = (G n).b) (k : Nat) : (updG G n g k).b = (G k).b := by
  by_cases e : k = n
  · subst e; rw [updG_same, h]
  · rw [updG_other e]
theorem curV_upd {G : Nat → Gh} {n : Nat} {g : Gh} (h : g.b = (G n).b) (l : List Nat) : curV (updG G n g) l = curV G l := by
  cases l with
  | nil => rfl
  | cons k r => simp only [curV, updG_b h]
theorem fnsV_upd {G : Nat → Gh} {n : Nat} {g : Gh} (h : g.b = (G n).b) (k : Nat) : fnsV (updG G n g) k = fnsV G k := by
  simp only [fnsV, updG_b h]
/-- One function has turned. -/
theorem WAt.turned {w w' : World} {T T' : Own} {lo p n : Nat} {G : Nat → Gh} {vn : Value} {st : StS} {f f' : FnS} {g' : Gh} (h : WAt w T lo p G vn st) (hn : st.fns[n]? = some f) (ht : Turn (fun t => t.no = some n) T w T' w') (hg : FnAt w' T' lo n g' f') (hb : g'.b = (G n).b)
    (hc : w'.cell? ⟨g'.b, 3, none⟩ = w.cell? ⟨g'.b, 3, none⟩) (hf : ∀ k, w'.heap.size ≤ k → T' k = none) {fns' : List FnS} (hfns : fns' = st.fns.set n f') : WAt w' T' lo p (updG G n g') vn { st with fns := fns' } := by
  subst hfns
  have hlen : (st.fns.set n f').length = st.fns.length := List.length_set
  have hnl : n < st.fns.length := (List.getElem?_eq_some_iff.1 hn).1
  have B : ∀ k t, k < w.heap.size → T k = some t → t.no ≠ some n → w'.heap[k]? = w.heap[k]? ∧ T' k = T k := fun k t hk h1 h2 => ⟨ht.block k hk fun t' ht' => by rw [h1] at ht'; injection ht' with e; subst e; exact h2, ht.own k hk⟩
  have hp := h.p_lt
  have Bp := (B p _ hp h.tag (by simp [Tag.no])).1
  have H : ∀ o, w'.cell? ⟨p, o, none⟩ = w.cell? ⟨p, o, none⟩ := fun o => World.cell?_of_block (a := ⟨p, o, none⟩) Bp
  refine ⟨(ht.own p hp).trans h.tag, ?_, (H 1).trans h.c1, (H 2).trans h.c2, fun o => (World.frozen?_of_block (a := ⟨p, o, none⟩) Bp).trans (h.warm o), ?_, fun m fm hm => ?_, fun pre m rest e => ?_, h.sorted, Nat.le_trans h.base ht.size, fun k hk => (ht.own k (Nat.lt_of_lt_of_le hk h.base)).trans (h.old k hk), hf, h.parts, ?_⟩
  · rw [curV_upd hb]; exact (H 0).trans h.c0
  · show RowC w' T' lo _ 1 vn (st.fns.set n f').length (fnsV (updG G n g') (st.fns.set n f').length) .fns
    rw [hlen, fnsV_upd hb]
    exact h.rn.keep fun k hk h1 => B k _ hk h1 (by simp [Tag.no])
  · by_cases e : m = n
    · subst e
      have hm' : (st.fns.set m f')[m]? = some fm := hm
      rw [List.getElem?_set_self hnl] at hm'
      injection hm' with hm'
      subst hm'
      rw [updG_same]; exact hg
    · have hm' : (st.fns.set n f')[m]? = some fm := hm
      rw [List.getElem?_set_ne (Ne.symm e)] at hm'
      rw [updG_other e]
      exact (h.fn m fm hm').keep fun k t hk h1 h2 => B k t hk h1 (by rw [h2]; intro e'; injection e' with e'; exact e e')
  · obtain ⟨h1, h2⟩ := h.chain pre m rest e
    refine ⟨by show m < (st.fns.set n f').length; rw [hlen]; exact h1, ?_⟩
    rw [updG_b hb, curV_upd hb]
    by_cases e : m = n
    · subst e; rw [← hb, hc, hb]; exact h2
    · obtain ⟨fm, hm⟩ : ∃ fm, st.fns[m]? = some fm := ⟨_, List.getElem?_eq_getElem h1⟩
      have hF := h.fn m fm hm
      exact (World.cell?_of_block (a := ⟨(G m).b, 3, none⟩) (B _ _ hF.b_lt hF.hd.tb (by simp [Tag.no]; exact e)).1).trans h2
  · show (st.fns.set n f').length ≤ 256
    rw [hlen]; exact h.many
end Go.Proofs.Ytlbbbfmnghcdnaa
