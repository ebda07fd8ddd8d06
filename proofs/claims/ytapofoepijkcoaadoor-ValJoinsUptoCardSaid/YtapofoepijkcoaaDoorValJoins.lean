/- ValJoins: of every two lists of values (of bulk at most 1048576 together: the second form): the objects of the two lists, one behind the other, are those of the one and then those of the other; the arguments read as they did. Conditions: the tied package-level variables, the bulk, and the form's own reach. -/
import Derived.Test.YtapofoepijkcoaaDoorCards
import Derived.Test.YtapofoepijkcoaaDoorTie
import Derived.Test.YtapofoepijkcoaaDoorValFrame
import Derived.Test.YtapofoepijkcoaaDoorWords
import Derived.Test.YtapofoepijkcoaaDoorBulk
import Derived.IntWalk
namespace Go.Proofs.YtapofoepijkcoaaDoor.valJoins
open Go.ChangeShapes Go.WideShapes Go.ChangeAt Go.RowKit

theorem pairCells_len : ∀ l : List (Int × Int), (pairCells l).length = l.length * 2
  | [] => rfl
  | x :: r => by
    have := pairCells_len r
    unfold pairCells at this ⊢
    rw [List.flatMap_cons, List.length_append, this]
    simp only [List.length_cons, List.length_nil]
    omega
theorem pairCells_append (a b : List (Int × Int)) : pairCells (a ++ b) = pairCells a ++ pairCells b := by unfold pairCells; rw [List.flatMap_append]
theorem pairCells_one (l : List (Int × Int)) : ∀ u ∈ pairCells l, u.oneCell' = true := by
  intro u hu
  unfold pairCells at hu
  simp only [List.mem_flatMap] at hu
  obtain ⟨p, _, h⟩ := hu
  simp at h
  rcases h with rfl | rfl <;> rfl
theorem reads_of_pairs {w : World} {A : Option Addr} {l : List (Int × Int)} (h : PairsAt w A l) : Reads w w.heap.size 2 A l.length (pairCells l) := by
  refine ⟨pairCells_len l, fun hn => ?_⟩
  obtain ⟨ad, rfl, hb, _⟩ := h 0 _ (List.getElem?_eq_getElem hn)
  refine ⟨ad, rfl, hb, fun j u hu => ?_⟩
  have hj : j < l.length * 2 := by rw [← pairCells_len]; exact (List.getElem?_eq_some_iff.1 hu).1
  have hp := List.getElem?_eq_getElem (l := l) (i := j / 2) (by omega)
  obtain ⟨ad', e, _, h0, h1⟩ := h (j / 2) _ hp
  obtain rfl := Option.some.inj e
  obtain ⟨c0, c1⟩ := pairCells_at l _ _ hp
  rcases Nat.mod_two_eq_zero_or_one j with e | e
  · rw [show j / 2 * 2 = j by omega] at c0 h0
    rw [h0, ← hu, c0]
  · rw [show j / 2 * 2 + 1 = j by omega] at c1
    rw [Go.Deep.add_add, show j / 2 * 2 + 1 = j by omega] at h1
    rw [h1, ← hu, c1]
theorem pairs_of_own {w : World} {base : Nat} {v : Value} {l : List (Int × Int)} (h : w.ownsRow base 23 2 v l.length (pairCells l)) : ∃ A c, v = .slice A l.length c ∧ PairsAt w A l := by
  have h0 := h
  rcases h.2 with ⟨rfl, h1⟩ | ⟨g, cap, cur, rfl, _, hg, _⟩
  · have : l = [] := List.length_eq_zero_iff.1 h1
    subst this
    exact ⟨none, 0, rfl, fun i x hx => by simp at hx⟩
  · refine ⟨some ⟨g, 0, none⟩, cap, rfl, fun i x hx => ?_⟩
    obtain ⟨c0, c1⟩ := pairCells_at l i x hx
    exact ⟨_, rfl, (Array.getElem?_eq_some_iff.1 hg).1, h0.cells rfl _ _ c0, by rw [Go.Deep.add_add]; exact h0.cells rfl _ _ c1⟩
theorem refsL_append (a b : List (Int × Int)) : refsL (a ++ b) = refsL a ++ refsL b := by unfold refsL; rw [List.filter_append, List.map_append]
theorem pair_info : (Tryd.prog.info? 23).map (fun i => (i.zero, i.size, i.bytes)) = some (some (.agg #[.int .i64 0, .int .i64 0]), 2, 16) := by kernel_rfl
structure Good (w : World) (A B : Option Addr) (a b : List (Int × Int)) (w1 : World) : Prop where
  below : Below w.heap.size w w1
  env : Env w1
  pa : PairsAt w1 A a
  pb : PairsAt w1 B b
theorem Good.next {w w1 w2 : World} {A B : Option Addr} {a b : List (Int × Int)} (h : Good w A B a b w1) (hb : Below w1.heap.size w1 w2) : Good w A B a b w2 := ⟨h.below.trans (hb.mono h.below.size), h.env.below hb, pairs_below h.pa hb, pairs_below h.pb hb⟩
theorem after1 {w w2 : World} (hg : w.grownBy w2 (Value.slice none 0 0).ownBlock) : Below w.heap.size w w2 := (Below.refl _ _).grown hg (Nat.le_refl _) (by simp [Value.ownBlock])
theorem after2 {w1 w2 w3 : World} {v : Value} {e : TypeId} {s n : Nat} {xs : List Value} (h : w2.ownsRow w1.heap.size e s v n xs) (hg : w2.grownBy w3 v.ownBlock) (hs : w1.heap.size ≤ w2.heap.size) : Below w1.heap.size w2 w3 :=
  (Below.refl _ _).grown hg hs fun k hk => (h.lt k hk).1
set_option maxHeartbeats 4000000 in
theorem walk (A : Option Addr) (c : Nat) (a : List (Int × Int)) (B : Option Addr) (d : Nat) (b : List (Int × Int)) (_ : a.length * 16 ≤ 140737488351232) (la : a.length ≤ 1048576) (_ : b.length * 16 ≤ 140737488351232) (lb : b.length ≤ 1048576) (w : World) (ha : PairsAt w A a) (hb : PairsAt w B b) (hE : Env w) :
    Calls Tryd.prog 8 #[.slice A a.length c, .slice B b.length d] w fun e w' => e = .returned (.bool true) ∧ Below w.heap.size w w' := by
  obtain ⟨i0, hi, hz0, hz1, hz2⟩ := info_parts pair_info
  have G : Hid (Good w A B a b w) := ⟨Below.refl _ _, hE, ha, hb⟩
  clear hE ha hb
  have X := Lib.hid (fun w h => Refs_any A c a w (by omega) h)
  have Y := Lib.hid (fun w h => Refs_any B d b w (by omega) h)
  have Z := Lib.hid (fun A3 c3 w h => Refs_any A3 c3 (a ++ b) w (by rw [List.length_append]; omega) h)
  have nx := refsL_len a
  have ny := refsL_len b
  rw [refsL_append] at Z
  simp only [List.length_append] at Z
  generalize refsL a = x at X Z nx
  generalize refsL b = y at Y Z ny
  go_enter Tryd.func8, Tryd.ntmps8
  go_wp2_with (first
    | (go_at_call 18; refine (works_true _ G.out.env).mono ?_; rintro e w1 ⟨rfl, hb⟩; replace G := Lib.hid (G.out.next hb); clear hb)
    | (at_builtin; refine wpList_append_any _ rfl (.tmp 12) (.tmp 13) _ rfl w1.heap.size 23 i0 _ 2 16 Tryd.underlying29 hi hz0 hz1 hz2 rfl (by omega) (.slice none 0 0) 0 [] rfl ⟨by simp, .inl ⟨rfl, rfl⟩⟩ w1.heap.size A a.length c (pairCells a) rfl (reads_of_pairs G.out.pa) (pairCells_one a) (by simp only [maxLen]; omega) (by omega) (Nat.le_refl _) ?_; intro v2 w2 hown2 hg2 hat2; simp only [Nat.zero_add, List.nil_append] at hown2; have hB2 := after1 hg2; have G2 := Lib.hid (G.out.next hB2); have H1 := hB2.size)
    | (at_builtin; refine wpList_append_any _ rfl (.tmp 15) (.tmp 16) _ rfl w1.heap.size 23 i0 _ 2 16 Tryd.underlying29 hi hz0 hz1 hz2 rfl (by omega) v2 a.length (pairCells a) rfl hown2 w2.heap.size B b.length d (pairCells b) rfl (reads_of_pairs G2.out.pb) (pairCells_one b) (by simp only [maxLen]; omega) (by omega) H1 ?_; intro v3 w3 hown3 hg3 hat3; have hB3 := after2 hown2 hg3 H1; have G3 := Lib.hid (G.out.next (hB2.trans hB3)); rw [← List.length_append, ← pairCells_append] at hown3))
  obtain ⟨A3, c3, rfl, p3⟩ := pairs_of_own hown3
  have K : Hid (Good w A B a b w3 ∧ PairsAt w3 A3 (a ++ b)) := ⟨G3.out, p3⟩
  clear hown3 hown2 hg2 hg3 hat2 hat3 hB2 hB3 H1 G2 G3 G p3
  refine (X.out _ K.out.1.pa).mono ?_
  rintro e w4 ⟨vx, rfl, ox, bx⟩
  obtain ⟨Ax, cx, rfl, ix⟩ := ints_of_own ox
  replace K : Hid (Good w A B a b w4 ∧ PairsAt w4 A3 (a ++ b) ∧ IntsAt w4 Ax x) := ⟨K.out.1.next bx, pairs_below K.out.2 bx, ix⟩
  clear ox bx ix
  go_wp2_with fail
  refine (Y.out _ K.out.1.pb).mono ?_
  rintro e w5 ⟨vy, rfl, oy, bx⟩
  obtain ⟨Ay, cy, rfl, iy⟩ := ints_of_own oy
  replace K : Hid (Good w A B a b w5 ∧ PairsAt w5 A3 (a ++ b) ∧ IntsAt w5 Ax x ∧ IntsAt w5 Ay y) := ⟨K.out.1.next bx, pairs_below K.out.2.1 bx, K.out.2.2.below bx, iy⟩
  clear oy bx iy
  go_wp2_with fail
  refine (Z.out _ _ _ K.out.2.1).mono ?_
  rintro e w6 ⟨vz, rfl, oz, bx⟩
  obtain ⟨Az, cz, rfl, iz⟩ := ints_of_own oz
  replace K : Hid (Good w A B a b w6 ∧ IntsAt w6 Ax x ∧ IntsAt w6 Ay y ∧ IntsAt w6 Az ((x ++ y))) := ⟨K.out.1.next bx, K.out.2.2.1.below bx, K.out.2.2.2.below bx, iz⟩
  clear oz bx iz
  go_wp2_with fail
  go_loopw [9] (fun i wr => ∃ k : Nat, k ≤ x.length + y.length ∧ i = .int .i64 k ∧ ∃ n, wr = w6.drewN n) (fun i _ => x.length + y.length - (intOf i).toNat)
  case atStart => exact ⟨0, Nat.zero_le _, rfl, 0, rfl⟩
  case round =>
    obtain ⟨k, hk, rfl, n, rfl⟩ := hrel
    by_cases hlt : k < x.length + y.length
    · by_cases hx : k < x.length
      · have hz : (x ++ y)[k]? = some x[k] := by rw [List.getElem?_append_left hx]; exact List.getElem?_eq_getElem hx
        obtain ⟨az, rfl, _, dz⟩ := K.out.2.2.2 k _ hz
        obtain ⟨ax, rfl, _, dx⟩ := K.out.2.1 k _ (List.getElem?_eq_getElem hx)
        generalize x[k] = q at *
        clear hz
        have g1 : decide (k < x.length) = true := decide_eq_true hx
        have g2 : decide (x.length ≤ k) = false := decide_eq_false (by omega)
        have g3 : decide ((k : Int) < (x.length : Int)) = true := decide_eq_true (by omega)
        have g4 : decide ((x.length : Int) ≤ (k : Int)) = false := decide_eq_false (by omega)
        go_wp2_with fail
        go_quiet (fail)
        go_wp2_with fail
        go_roundw
        case rel => exact ⟨k + 1, by omega, by go_num, _, rfl⟩
        case measure => simp [intOf]; omega
      · have hy : k - x.length < y.length := by omega
        have hz : (x ++ y)[k]? = some y[k - x.length] := by rw [List.getElem?_append_right (by omega)]; exact List.getElem?_eq_getElem hy
        obtain ⟨az, rfl, _, dz⟩ := K.out.2.2.2 k _ hz
        obtain ⟨ay, rfl, _, dy⟩ := K.out.2.2.1 (k - x.length) _ (List.getElem?_eq_getElem hy)
        generalize y[k - x.length] = q at *
        clear hz
        have g1 : decide (k < x.length) = false := decide_eq_false hx
        have g2 : decide (x.length ≤ k) = true := decide_eq_true (by omega)
        have g3 : decide ((k : Int) < (x.length : Int)) = false := decide_eq_false (by omega)
        have g4 : decide ((x.length : Int) ≤ (k : Int)) = true := decide_eq_true (by omega)
        have w1 : IntKind.i64.wrap ((k : Int) - (x.length : Int)) = (k : Int) - (x.length : Int) := IntWalk.i64_in _ (by omega)
        have w2 : ((k : Int) - (x.length : Int)).toNat = k - x.length := by omega
        have w3 : (0 : Int) ≤ (k : Int) - (x.length : Int) := by omega
        have w4 : (k : Int) - (x.length : Int) < (y.length : Int) := by omega
        go_wp2_with fail
        go_quiet (fail)
        clear w1 w2 w3 w4
        go_wp2_with fail
        go_roundw
        case rel => exact ⟨k + 1, by omega, by go_num, _, rfl⟩
        case measure => simp [intOf]; omega
    · go_wp2_with fail
      go_ret
      exact ⟨rfl, below_drewN K.out.1.below _⟩
set_option maxRecDepth 100000 in
theorem contract (H : Type) (enc : TypeId × Value → H) (W : World) (base : Nat) (args : Array Value) (ds gs : List (DataW H)) (before : List MemPlace)
    (hval : ∀ (j : Nat) t v, Tryd.f8.params[j]? = some t → args[j]? = some v → Value.okWide Tryd.prog W .any base t v)
    (hW : DataW.Whole enc Tryd.prog Tryd.f8.params.toList Rows.valJoinsSpec.vars false W args.toList ds gs before)
    (hsz0 : (DataW.weightsEach Tryd.prog (Tryd.f8.params.toList ++ (Rows.OpenSpec.upto Rows.valJoinsSpec).bare.plain.varTypes Tryd.prog) (ds ++ gs)).all (· ≤ reachBytes) = true) (hL : laidMetH Tryd.prog Rows.valJoinsUptoRow.laid W) (hk : Rows.uptoSmall H (ds ++ gs) = true) :
    Calls Tryd.prog 8 args W fun e W' => ∃ v, e = .returned v ∧ Rows.valJoinsSpec.post enc Tryd.prog Tryd.f8 false true false false W args v W' := by
  have hW' := hW
  obtain ⟨p, q, hA0, hV, rfl, hfz, hnd⟩ := hW
  have hA : DataW.TrodAll enc Tryd.prog W 0 (fun _ => true) true Tryd.f8.params.toList args.toList ds p := hA0
  have hsz := hsz0
  rw [Tryd.params8] at hA hval hsz
  obtain ⟨v0, vs0, d0, ds0, p0, q0, hargs, rfl, rfl, h0, r0⟩ := trodAll_cons hA
  obtain ⟨v1, vs1, d1, ds1, p1, q1, rfl, rfl, rfl, h1, r1⟩ := trodAll_cons r0
  obtain ⟨rfl, rfl, rfl⟩ := trodAll_nil r1
  obtain rfl : args = #[v0, v1] := by cases args; simp_all
  obtain ⟨rfl, rfl⟩ := trodVars_none hV
  have hbulk := bulks.bound hk
  obtain ⟨a0, c0, l0, rfl, w0, y0⟩ := open_vals (hval 0 29 v0 rfl rfl) h0
  have u0 := vals_room hsz (j := 0) rfl rfl y0
  have z0 := bulks.vals_bulk hbulk (d := d0) (by simp) y0
  obtain ⟨a1, c1, l1, rfl, w1, y1⟩ := open_vals (hval 1 29 v1 rfl rfl) h1
  have u1 := vals_room hsz (j := 1) rfl rfl y1
  have z1 := bulks.vals_bulk hbulk (d := d1) (by simp) y1
  clear hA0 hsz hsz0
  simp only [List.append_nil] at hW'
  refine (walk a0 c0 l0 a1 c1 l1 u0 z0 u1 z1 W w0 w1 (env_of_laid hL)).mono fun e W' ⟨he, hb⟩ => ?_
  subst he
  exact ⟨_, rfl, law_post laidOut (by kernel_rfl) (by kernel_rfl) Tryd.underlying4 hW' hb rfl⟩

theorem laid_met (os : Os) : laidMet Tryd.prog Rows.valJoinsUptoRow.laid ((laidWorld os).forCall (fun _ _ => 0) ⟨#[], #[.slice none 0 0, .slice none 0 0], []⟩).memory :=
  laidMet_of_run' 8 (by kernel_rfl) (by kernel_rfl)
theorem reads (os : Os) {H : Type} (enc : TypeId × Value → H) : ∃ places, DataW.whole enc Tryd.prog ((laidWorld os).forCall (fun _ _ => 0) ⟨#[], #[.slice none 0 0, .slice none 0 0], []⟩).memory Tryd.f8.params.toList Rows.valJoinsSpec.vars false (#[.slice none 0 0, .slice none 0 0] : Array Value).toList 8 = some ([.nil, .nil], [], places) :=
  ⟨[], by kernel_rfl⟩

set_option maxRecDepth 100000 in
theorem lifted (os : Os) (started : os.Started) (H : Type) (enc : TypeId × Value → H) (F : Stop.Interp) :
    ReturnsInHanded {} Tryd.checked os 8 .any ((Rows.OpenSpec.upto Rows.valJoinsSpec).preRow enc Tryd.prog Tryd.f8 Rows.valJoinsUptoRow.domain false Rows.valJoinsUptoRow.laid) (((Rows.OpenSpec.upto Rows.valJoinsSpec).at F).post enc Tryd.prog Tryd.f8 false true false false) := by
  obtain ⟨places, hx⟩ := reads os enc
  refine returnsInHanded_of_row (C := Tryd.checked) (s := (Rows.OpenSpec.upto Rows.valJoinsSpec)) own started (by kernel_rfl) Tryd.func8
    (witness_row_atRef (enc := enc) (C := Tryd.checked) false (laidWorld os) #[.slice none 0 0, .slice none 0 0] rfl (by kernel_rfl) (by kernel_rfl) (by kernel_rfl)
      (OpenSpec.preRow_of_cond 8 hx (by kernel_rfl) (fun k hk => by cases hk; kernel_rfl) (by kernel_rfl) (laid_met os))) ?_
  intro W base args ds gs before hval hW _ hcond hsz hL _ _
  exact contract H enc W base args ds gs before hval hW hsz hL (hcond _ rfl)

theorem said : Rows.ValJoinsUptoSaid :=
  OpenClaim.holds_of_cond 8 Tryd.f8 rfl rfl rfl rfl rfl rfl rfl ⟨rfl, rfl, rfl, rfl, rfl⟩ rfl rfl rfl rfl rfl (by kernel_rfl) Tryd.func8 (by kernel_rfl)
    (of_decide_eq_true (by kernel_rfl)) (by unfold Func.isWrapper; first | (rw [if_pos (by decide +kernel)]; kernel_rfl) | (rw [if_neg (by decide +kernel)]; exact ⟨rfl, rfl⟩))
    (fun os started H enc _ F => by rw [OpenClaim.pre_eq_preRow]; exact lifted os started H enc F)

/-- No parameter wants a stand-in; the program's own looks are off: what the card asks. -/
theorem plain (f : FuncId) (fn : Func) (hf : Tryd.pinned.checked.prog.funcNamed "tallow/tallowlaw02.ValJoins" = some f) (hfn : Tryd.pinned.checked.prog.funcs[f]? = some fn) :
    Rows.valJoinsUptoCard.stood.looks = Tryd.pinned.checked.prog.looks [] ∧ ∀ (j : Nat) t, fn.params[j]? = some t → Tryd.pinned.checked.prog.wantsStandIn t = false := by
  obtain rfl : f = 8 := Option.some.inj ((show Tryd.prog.funcNamed "tallow/tallowlaw02.ValJoins" = some 8 by kernel_rfl).symm.trans hf) |>.symm
  obtain rfl : fn = Tryd.f8 := (Option.some.inj (Tryd.func8.symm.trans hfn)).symm
  refine ⟨by kernel_rfl, fun j t ht => ?_⟩
  rw [Tryd.params8] at ht
  have hm : t ∈ ([29, 29] : List TypeId) := by simpa using Array.mem_of_getElem? ht
  have ha : ([29, 29] : List TypeId).all (fun t => !Tryd.prog.wantsStandIn t) = true := by kernel_rfl
  have hb := List.all_eq_true.1 ha t hm
  have hc : Tryd.prog.wantsStandIn t = false := by simpa using hb
  exact hc

/-- THE CARD. -/
theorem card : Rows.ValJoinsUptoCardSaid :=
  Claim7.holds_tied_plain_at .later [] _ _ _ _ said (fun _ h => by cases h) (by kernel_rfl) (fun _ h => by cases h) valJoinsUpto_row_tie rfl ⟨rfl, rfl⟩ (by kernel_rfl) rfl plain (by kernel_rfl)
end Go.Proofs.YtapofoepijkcoaaDoor.valJoins
