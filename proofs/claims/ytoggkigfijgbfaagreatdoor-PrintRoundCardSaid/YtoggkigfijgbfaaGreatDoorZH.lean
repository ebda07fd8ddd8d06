/- print.Same: its answer as a plain function; count, the comparison of texts, and of lists by a comparison of elements. | print.Same: the comparison of lists of texts. | print.Same: the comparison of two expressions, of two statements, of lists of them, at a depth and one. -/
import Derived.Test.YtoggkigfijgbfaaGreatDoorZPrAll
namespace Go.Proofs.YtoggkigfijgbfaaGreatDoor.P6
set_option maxRecDepth 20000
open Go.RowKit

/-- Alike, but for lines. -/
def eqT : Tree → Tree → Bool
  | .nil, .nil => true
  | .tx s, .tx t => s == t
  | .cons h t, .cons h' t' => eqT h h' && eqT t t'
  | .ex k _ n s l r ks xs ps bd, .ex k' _ n' s' l' r' ks' xs' ps' bd' => k == k' && (n == n' && (s == s' && (eqT l l' && (eqT r r' && (eqT ks ks' && (eqT xs xs' && (eqT ps ps' && eqT bd bd')))))))
  | .st k _ s l r o x y, .st k' _ s' l' r' o' x' y' => k == k' && (s == s' && (eqT l l' && (eqT r r' && (eqT o o' && (eqT x x' && eqT y y')))))
  | _, _ => false
/-- How many statements and expressions. -/
def sizeT : Tree → Nat
  | .ex _ _ _ _ l r ks xs _ bd => 1 + (sizeT l + (sizeT r + (sizeT ks + (sizeT xs + sizeT bd))))
  | .st _ _ _ l r o x y => 1 + (sizeT l + (sizeT r + (sizeT o + (sizeT x + sizeT y))))
  | .cons h t => sizeT h + sizeT t
  | _ => 0
def depthT : Tree → Nat
  | .ex _ _ _ _ l r ks xs _ bd => 1 + max (depthT l) (max (depthT r) (max (depthT ks) (max (depthT xs) (depthT bd))))
  | .st _ _ _ l r o x y => 1 + max (depthT l) (max (depthT r) (max (depthT o) (max (depthT x) (depthT y))))
  | .cons h t => max (depthT h) (depthT t)
  | _ => 0
/-- The first elements. -/
def takeT : Tree → Nat → List Tree
  | .cons h t, n + 1 => h :: takeT t n
  | _, _ => []
/-- So many parts have the first elements. -/
def sizeN (t : Tree) (n : Nat) : Nat := ((takeT t n).map sizeT).sum
theorem take_succ : ∀ (t : Tree) (n : Nat), n < lenT t → takeT t (n + 1) = takeT t n ++ [getT t n]
  | .cons h t, 0, _ => by simp [takeT, getT]
  | .cons h t, n + 1, hn => by
    have := take_succ t n (by simp only [lenT] at hn; omega)
    show h :: takeT t (n + 1) = h :: takeT t n ++ [getT t n]
    rw [this]; rfl
theorem sizeN_succ (t : Tree) (n : Nat) (hn : n < lenT t) : sizeN t (n + 1) = sizeN t n + sizeT (getT t n) := by
  unfold sizeN
  rw [take_succ t n hn]
  simp
theorem depth_get : ∀ (t : Tree) (j : Nat), depthT (getT t j) ≤ depthT t
  | .cons h t, 0 => by simp only [getT, depthT]; omega
  | .cons h t, j + 1 => by
    have := depth_get t j
    simp only [getT, depthT]; omega
  | .nil, _ => by simp [getT, depthT]
  | .tx _, _ => by simp [getT, depthT]
  | .ex .., _ => by simp [getT, depthT]
  | .st .., _ => by simp [getT, depthT]
theorem count_any {w : World} {p k : Nat} (hc : w.cell? ⟨p, 0, none⟩ = some (iV k)) (hf : w.frozen? ⟨p, 0, none⟩ = false) (hk : k ≤ 65536) :
    Calls Tryz.prog 126 #[pV p] w fun e w' => e = .returned (.bool (decide (k + 1 ≤ 65536))) ∧ w' = w.setCell ⟨p, 0, none⟩ (iV (k + 1 : Nat)) := by
  have e1 : wrap64 (((k : Nat) : Int) + 1) = ((k + 1 : Nat) : Int) := by rw [IntWalk.wrap64_in _ ⟨by omega, by omega⟩]; omega
  have c2 : (w.setCell ⟨p, 0, none⟩ (.int .i64 ((k : Int) + 1))).cell? ⟨p, 0, none⟩ = some (.int .i64 ((k : Int) + 1)) := World.cell?_setCell_same _ _ _ hc
  by_cases h : k + 1 ≤ 65536
  · have h2 : ((k : Nat) : Int) + 1 ≤ 65536 := by omega
    rw [decide_eq_true h]
    go_enter Tryz.func126, Tryz.ntmps126
    go_wp2
    go_ret
    exact ⟨rfl, rfl⟩
  · have h2 : ¬ ((k : Nat) : Int) + 1 ≤ 65536 := by omega
    rw [decide_eq_false h]
    go_enter Tryz.func126, Tryz.ntmps126
    go_wp2
    go_ret
    exact ⟨rfl, rfl⟩
def propL : Tree → Bool
  | .nil => true
  | .cons _ t => propL t
  | _ => false
theorem prop_ok : ∀ {t : Tree} {q : Srt}, q ≠ .e → q ≠ .s → okT q t = true → propL t = true
  | .nil, _, _, _, _ => rfl
  | .cons h t, q, he, hs, ho => by
    cases q with
    | e => exact absurd rfl he
    | s => exact absurd rfl hs
    | es => simp only [okT, Bool.and_eq_true] at ho; exact (prop_ok (t := t) he hs ho.2 : propL t = true)
    | ss => simp only [okT, Bool.and_eq_true] at ho; exact (prop_ok (t := t) he hs ho.2 : propL t = true)
    | ts => cases h with
      | tx x => simp only [okT, Bool.and_eq_true] at ho; exact (prop_ok (t := t) he hs ho.2 : propL t = true)
      | _ => simp [okT] at ho
  | .tx _, q, he, hs, ho => by cases q <;> simp [okT] at ho
  | .ex .., q, he, hs, ho => by cases q <;> first | exact absurd rfl he | simp [okT] at ho
  | .st .., q, he, hs, ho => by cases q <;> first | exact absurd rfl hs | simp [okT] at ho
theorem eq_list : ∀ {x y : Tree}, propL x = true → propL y = true → (eqT x y = true ↔ lenT x = lenT y ∧ ∀ j, j < lenT x → eqT (getT x j) (getT y j) = true)
  | .nil, .nil, _, _ => by simp [eqT, lenT]
  | .nil, .cons h t, _, _ => by simp [eqT, lenT]
  | .cons h t, .nil, _, _ => by simp [eqT, lenT]
  | .cons h t, .cons h' t', hx, hy => by
    have ih := eq_list (x := t) (y := t') hx hy
    simp only [eqT, Bool.and_eq_true, lenT, ih]
    constructor
    · rintro ⟨h1, h2, h3⟩
      refine ⟨by omega, fun j hj => ?_⟩
      cases j with
      | zero => exact h1
      | succ j => exact h3 j (by omega)
    · rintro ⟨h1, h2⟩
      exact ⟨h2 0 (by omega), by omega, fun j hj => h2 (j + 1) (by omega)⟩
theorem size_list2 : ∀ {x : Tree}, propL x = true → sizeT x = sizeN x (lenT x)
  | .nil, _ => rfl
  | .cons h t, hx => by
    have ih := size_list2 (x := t) hx
    show sizeT h + sizeT t = ((sizeT h) :: (takeT t (lenT t)).map sizeT).sum
    rw [List.sum_cons, ih]; rfl
theorem sizeN_le {t : Tree} : ∀ {i j : Nat}, i ≤ j → j ≤ lenT t → sizeN t i ≤ sizeN t j := by
  intro i j hij hj
  induction j with
  | zero => have : i = 0 := by omega
            rw [this]; exact Nat.le_refl _
  | succ j ih =>
    rcases Nat.lt_or_ge i (j + 1) with h | h
    · have := ih (by omega) (by omega)
      rw [sizeN_succ t j (by omega)]; omega
    · have : i = j + 1 := by omega
      rw [this]; exact Nat.le_refl _
/-- The pairs' count. -/
structure PA (w : World) (p k : Nat) : Prop where
  c : w.cell? ⟨p, 0, none⟩ = some (iV k)
  f : w.frozen? ⟨p, 0, none⟩ = false
  le : k ≤ 65536
theorem PA.lt {w : World} {p k : Nat} (h : PA w p k) : p < w.heap.size := World.block_lt_of_cell? w _ h.c
/-- What a comparison leaves: is it just so, and does the count bear it? -/
structure Cmp (p k : Nat) (ok : Bool) (n : Nat) (w : World) (e : Ending) (w' : World) : Prop where
  ret : e = .returned (.bool (ok && decide (k + n ≤ 65536)))
  cell : ok = true → k + n ≤ 65536 → PA w' p (k + n)
  past : Past [p] w w'
structure LRel (p k n : Nat) (xs ys : Tree) (w0 : World) (j : Nat) (wr : World) : Prop where
  all : ∀ i, i < j → eqT (getT xs i) (getT ys i) = true
  pa : PA wr p (k + sizeN xs j)
  past : Past [p] w0 wr
set_option maxHeartbeats 4000000 in
theorem eqfS {b w : World} {p k K : Nat} {xs ys : Tree} {vx vy : Value} (hp : b.heap.size ≤ p) (hB : Below b.heap.size b w) (hX : TL b .ss xs vx) (hY : TL b .ss ys vy) (h : PA w p k)
    (step : ∀ w1 k1 x y t u, TS b t x → TS b u y → depthT t ≤ depthT xs → Past [p] w w1 → PA w1 p k1 → Calls Tryz.prog K #[pV p, x, y] w1 (Cmp p k1 (eqT t u) (sizeT t) w1))
    (hK : ∀ (args : Array Value) (w : World), (callFunc K args).run Tryz.prog w = .ok (.enter K args) w) :
    Calls Tryz.prog 66 #[vx, vy, .func (.func K) #[pV p] #[]] w (Cmp p k (eqT xs ys) (sizeT xs) w) := by
  obtain ⟨A, c, rfl⟩ := hX.sl
  obtain ⟨B, d, rfl⟩ := hY.sl
  have px := prop_ok (by intro h; cases h) (by intro h; cases h) hX.ok
  have py := prop_ok (by intro h; cases h) (by intro h; cases h) hY.ok
  have EQ := eq_list px py
  have SZ := size_list2 px
  have hfx := hX.few
  by_cases hl : lenT xs = lenT ys
  · have HX := Lib.hid hX
    have HY := Lib.hid hY
    have ST := Lib.hid step
    have HB := Lib.hid hB
    have REL0 : Hid (LRel p k (lenT xs) xs ys w 0 w) := Lib.hid ⟨fun i hi => absurd hi (by omega), by simpa [sizeN, takeT] using h, Past.refl _ _⟩
    have HEQ := Lib.hid EQ
    have HSZ := Lib.hid SZ
    have hpl := h.lt
    have n0 : (((lenT xs : Nat) : Int) != ((lenT ys : Nat) : Int)) = false := by rw [hl]; simp
    have n1 : (((lenT xs : Nat) : Int) == ((lenT ys : Nat) : Int)) = true := by rw [hl]; simp
    replace hl := Lib.hid hl
    generalize hr : (eqT xs ys && decide (k + sizeT xs ≤ 65536)) = r
    have HR := Lib.hid hr
    clear hX hY step hB h EQ SZ px py hr
    go_enter Tryz.func66, Tryz.ntmps66
    go_wp2
    go_loopw [7, 8, 9, 17] (fun _ _ _ i wr => ∃ j : Nat, j ≤ lenT xs ∧ i = iV j ∧ Hid (LRel p k (lenT xs) xs ys w j wr)) (fun _ _ _ i _ => lenT xs - (intOf i).toNat)
    case atStart => exact ⟨0, Nat.zero_le _, rfl, REL0⟩
    case round =>
      obtain ⟨j, hj, rfl, hF⟩ := hrel
      clear REL0
      by_cases hlt : j < lenT xs
      · obtain ⟨gA, x, rfl, hgA, hcA, tx⟩ := HX.out.getS j hlt
        obtain ⟨gB, y, rfl, hgB, hcB, ty⟩ := HY.out.getS j (by rw [← hl.out]; exact hlt)
        have hsz := HB.out.size
        have q1 := (hF.out.past.cell (p := ⟨gA, j, none⟩) (Nat.lt_of_lt_of_le hgA hsz) (by simp; omega)).trans ((HB.out.cell (p := ⟨gA, j, none⟩) hgA).trans hcA)
        have q2 := (hF.out.past.cell (p := ⟨gB, j, none⟩) (Nat.lt_of_lt_of_le hgB hsz) (by simp; omega)).trans ((HB.out.cell (p := ⟨gB, j, none⟩) hgB).trans hcB)
        have k0 : (0 : Int) ≤ (j : Int) := by omega
        have k1 : (j : Int) < (lenT xs : Int) := by omega
        have k2 : (j : Int) < (lenT ys : Int) := by have := hl.out; omega
        have CC := Lib.hid (ST.out wr (k + sizeN xs j) x y _ _ tx ty (depth_get xs j) hF.out.past hF.out.pa)
        have hS1 := sizeN_succ xs j hlt
        by_cases hok : (eqT (getT xs j) (getT ys j) && decide (k + sizeN xs j + sizeT (getT xs j) ≤ 65536)) = true
        · have hok2 := hok
          simp only [Bool.and_eq_true, decide_eq_true_eq] at hok2
          have HO := Lib.hid hok2
          have H1 := Lib.hid hS1
          have CK := Lib.hid (CC.out.mono (R' := fun e w' => e = .returned (.bool true) ∧ PA w' p (k + sizeN xs (j + 1)) ∧ Past [p] wr w') (fun e w' h => ⟨by rw [h.ret, hok], by have := h.cell hok2.1 hok2.2; rwa [show k + sizeN xs (j + 1) = k + sizeN xs j + sizeT (getT xs j) by omega], h.past⟩))
          clear hok hok2 hS1 CC hlt tx ty hcA hcB hgA hgB
          go_wp2_with (first
            | ((with_reducible refine CK.out.mono ?_); rintro e w1 ⟨rfl, hpa, hpw⟩))
          go_roundw
          case rel => exact ⟨j + 1, by omega, by go_num, Lib.hid ⟨fun i hi => by
            rcases Nat.lt_or_ge i j with h | h
            · exact hF.out.all i h
            · obtain rfl : i = j := by omega
              exact HO.out.1, hpa, hF.out.past.trans hpw⟩⟩
          case measure => show _ - (((j : Int) + 1)).toNat < _ - ((j : Int)).toNat; omega
        · have hok2 : (eqT (getT xs j) (getT ys j) && decide (k + sizeN xs j + sizeT (getT xs j) ≤ 65536)) = false := by simpa using hok
          have CK := Lib.hid (CC.out.mono (R' := fun e w' => e = .returned (.bool false) ∧ Past [p] wr w') (fun e w' h => ⟨by rw [h.ret, hok2], h.past⟩))
          have hrf : r = false := by
            cases r with
            | false => rfl
            | true =>
              exfalso
              apply hok
              have h1 := HR.out
              simp only [Bool.and_eq_true, decide_eq_true_eq] at h1 ⊢
              have h2 := (HEQ.out.1 h1.1).2 j hlt
              have h3 := sizeN_le (t := xs) (i := j + 1) (j := lenT xs) hlt (Nat.le_refl _)
              have h4 := HSZ.out
              exact ⟨h2, by omega⟩
          subst hrf
          clear hok hok2 hS1 CC hlt tx ty hcA hcB hgA hgB
          go_wp2_with (first
            | ((with_reducible refine CK.out.mono ?_); rintro e w1 ⟨rfl, hpw⟩))
          go_ret
          exact ⟨by rw [HR.out]; rfl, fun h1 h2 => (by have := HR.out; rw [h1, decide_eq_true h2] at this; cases this), hF.out.past.trans hpw⟩
      · obtain rfl : j = lenT xs := by omega
        have k1 : ¬ (lenT xs : Int) < (lenT xs : Int) := by omega
        have he : eqT xs ys = true := HEQ.out.2 ⟨hl.out, hF.out.all⟩
        have hle := hF.out.pa.le
        have hsz2 := HSZ.out
        have hrt : r = true := by rw [← HR.out, he, decide_eq_true (by omega)]; rfl
        subst hrt
        have HPA := hF.out.pa
        rw [← hsz2] at HPA
        replace HPA := Lib.hid HPA
        clear he hle hsz2
        go_wp2
        go_ret
        exact ⟨by rw [HR.out]; rfl, fun _ _ => HPA.out, hF.out.past⟩
  · have n0 : (((lenT xs : Nat) : Int) != ((lenT ys : Nat) : Int)) = true := by simp; omega
    have n1 : (((lenT xs : Nat) : Int) == ((lenT ys : Nat) : Int)) = false := beq_eq_false_iff_ne.2 (by omega)
    have he : eqT xs ys = false := by
      cases hq : eqT xs ys with
      | false => rfl
      | true => exact absurd (EQ.1 hq).1 hl
    rw [he]
    clear EQ SZ hl step hX hY px py
    go_enter Tryz.func66, Tryz.ntmps66
    go_wp2
    go_ret
    exact ⟨rfl, fun h => (by cases h), Past.refl _ _⟩
set_option maxHeartbeats 4000000 in
theorem eqfE {b w : World} {p k K : Nat} {xs ys : Tree} {vx vy : Value} (hp : b.heap.size ≤ p) (hB : Below b.heap.size b w) (hX : TL b .es xs vx) (hY : TL b .es ys vy) (h : PA w p k)
    (step : ∀ w1 k1 x y t u, TE b t x → TE b u y → depthT t ≤ depthT xs → Past [p] w w1 → PA w1 p k1 → Calls Tryz.prog K #[pV p, x, y] w1 (Cmp p k1 (eqT t u) (sizeT t) w1))
    (hK : ∀ (args : Array Value) (w : World), (callFunc K args).run Tryz.prog w = .ok (.enter K args) w) :
    Calls Tryz.prog 217 #[vx, vy, .func (.func K) #[pV p] #[]] w (Cmp p k (eqT xs ys) (sizeT xs) w) := by
  obtain ⟨A, c, rfl⟩ := hX.sl
  obtain ⟨B, d, rfl⟩ := hY.sl
  have px := prop_ok (by intro h; cases h) (by intro h; cases h) hX.ok
  have py := prop_ok (by intro h; cases h) (by intro h; cases h) hY.ok
  have EQ := eq_list px py
  have SZ := size_list2 px
  have hfx := hX.few
  by_cases hl : lenT xs = lenT ys
  · have HX := Lib.hid hX
    have HY := Lib.hid hY
    have ST := Lib.hid step
    have HB := Lib.hid hB
    have REL0 : Hid (LRel p k (lenT xs) xs ys w 0 w) := Lib.hid ⟨fun i hi => absurd hi (by omega), by simpa [sizeN, takeT] using h, Past.refl _ _⟩
    have HEQ := Lib.hid EQ
    have HSZ := Lib.hid SZ
    have hpl := h.lt
    have n0 : (((lenT xs : Nat) : Int) != ((lenT ys : Nat) : Int)) = false := by rw [hl]; simp
    have n1 : (((lenT xs : Nat) : Int) == ((lenT ys : Nat) : Int)) = true := by rw [hl]; simp
    replace hl := Lib.hid hl
    generalize hr : (eqT xs ys && decide (k + sizeT xs ≤ 65536)) = r
    have HR := Lib.hid hr
    clear hX hY step hB h EQ SZ px py hr
    go_enter Tryz.func217, Tryz.ntmps217
    go_wp2
    go_loopw [7, 8, 9, 17] (fun _ _ _ i wr => ∃ j : Nat, j ≤ lenT xs ∧ i = iV j ∧ Hid (LRel p k (lenT xs) xs ys w j wr)) (fun _ _ _ i _ => lenT xs - (intOf i).toNat)
    case atStart => exact ⟨0, Nat.zero_le _, rfl, REL0⟩
    case round =>
      obtain ⟨j, hj, rfl, hF⟩ := hrel
      clear REL0
      by_cases hlt : j < lenT xs
      · obtain ⟨gA, x, rfl, hgA, hcA, tx⟩ := HX.out.getE j hlt
        obtain ⟨gB, y, rfl, hgB, hcB, ty⟩ := HY.out.getE j (by rw [← hl.out]; exact hlt)
        have hsz := HB.out.size
        have q1 := (hF.out.past.cell (p := ⟨gA, j, none⟩) (Nat.lt_of_lt_of_le hgA hsz) (by simp; omega)).trans ((HB.out.cell (p := ⟨gA, j, none⟩) hgA).trans hcA)
        have q2 := (hF.out.past.cell (p := ⟨gB, j, none⟩) (Nat.lt_of_lt_of_le hgB hsz) (by simp; omega)).trans ((HB.out.cell (p := ⟨gB, j, none⟩) hgB).trans hcB)
        have k0 : (0 : Int) ≤ (j : Int) := by omega
        have k1 : (j : Int) < (lenT xs : Int) := by omega
        have k2 : (j : Int) < (lenT ys : Int) := by have := hl.out; omega
        have CC := Lib.hid (ST.out wr (k + sizeN xs j) x y _ _ tx ty (depth_get xs j) hF.out.past hF.out.pa)
        have hS1 := sizeN_succ xs j hlt
        by_cases hok : (eqT (getT xs j) (getT ys j) && decide (k + sizeN xs j + sizeT (getT xs j) ≤ 65536)) = true
        · have hok2 := hok
          simp only [Bool.and_eq_true, decide_eq_true_eq] at hok2
          have HO := Lib.hid hok2
          have H1 := Lib.hid hS1
          have CK := Lib.hid (CC.out.mono (R' := fun e w' => e = .returned (.bool true) ∧ PA w' p (k + sizeN xs (j + 1)) ∧ Past [p] wr w') (fun e w' h => ⟨by rw [h.ret, hok], by have := h.cell hok2.1 hok2.2; rwa [show k + sizeN xs (j + 1) = k + sizeN xs j + sizeT (getT xs j) by omega], h.past⟩))
          clear hok hok2 hS1 CC hlt tx ty hcA hcB hgA hgB
          go_wp2_with (first
            | ((with_reducible refine CK.out.mono ?_); rintro e w1 ⟨rfl, hpa, hpw⟩))
          go_roundw
          case rel => exact ⟨j + 1, by omega, by go_num, Lib.hid ⟨fun i hi => by
            rcases Nat.lt_or_ge i j with h | h
            · exact hF.out.all i h
            · obtain rfl : i = j := by omega
              exact HO.out.1, hpa, hF.out.past.trans hpw⟩⟩
          case measure => show _ - (((j : Int) + 1)).toNat < _ - ((j : Int)).toNat; omega
        · have hok2 : (eqT (getT xs j) (getT ys j) && decide (k + sizeN xs j + sizeT (getT xs j) ≤ 65536)) = false := by simpa using hok
          have CK := Lib.hid (CC.out.mono (R' := fun e w' => e = .returned (.bool false) ∧ Past [p] wr w') (fun e w' h => ⟨by rw [h.ret, hok2], h.past⟩))
          have hrf : r = false := by
            cases r with
            | false => rfl
            | true =>
              exfalso
              apply hok
              have h1 := HR.out
              simp only [Bool.and_eq_true, decide_eq_true_eq] at h1 ⊢
              have h2 := (HEQ.out.1 h1.1).2 j hlt
              have h3 := sizeN_le (t := xs) (i := j + 1) (j := lenT xs) hlt (Nat.le_refl _)
              have h4 := HSZ.out
              exact ⟨h2, by omega⟩
          subst hrf
          clear hok hok2 hS1 CC hlt tx ty hcA hcB hgA hgB
          go_wp2_with (first
            | ((with_reducible refine CK.out.mono ?_); rintro e w1 ⟨rfl, hpw⟩))
          go_ret
          exact ⟨by rw [HR.out]; rfl, fun h1 h2 => (by have := HR.out; rw [h1, decide_eq_true h2] at this; cases this), hF.out.past.trans hpw⟩
      · obtain rfl : j = lenT xs := by omega
        have k1 : ¬ (lenT xs : Int) < (lenT xs : Int) := by omega
        have he : eqT xs ys = true := HEQ.out.2 ⟨hl.out, hF.out.all⟩
        have hle := hF.out.pa.le
        have hsz2 := HSZ.out
        have hrt : r = true := by rw [← HR.out, he, decide_eq_true (by omega)]; rfl
        subst hrt
        have HPA := hF.out.pa
        rw [← hsz2] at HPA
        replace HPA := Lib.hid HPA
        clear he hle hsz2
        go_wp2
        go_ret
        exact ⟨by rw [HR.out]; rfl, fun _ _ => HPA.out, hF.out.past⟩
  · have n0 : (((lenT xs : Nat) : Int) != ((lenT ys : Nat) : Int)) = true := by simp; omega
    have n1 : (((lenT xs : Nat) : Int) == ((lenT ys : Nat) : Int)) = false := beq_eq_false_iff_ne.2 (by omega)
    have he : eqT xs ys = false := by
      cases hq : eqT xs ys with
      | false => rfl
      | true => exact absurd (EQ.1 hq).1 hl
    rw [he]
    clear EQ SZ hl step hX hY px py
    go_enter Tryz.func217, Tryz.ntmps217
    go_wp2
    go_ret
    exact ⟨rfl, fun h => (by cases h), Past.refl _ _⟩
end Go.Proofs.YtoggkigfijgbfaaGreatDoor.P6
namespace Go.Proofs.YtoggkigfijgbfaaGreatDoor.P6
set_option maxRecDepth 20000
open Go.RowKit

theorem drewN_add (w : World) (m n : Nat) : (w.drewN m).drewN n = w.drewN (m + n) := World.drewN_drewN _ _ _
set_option maxHeartbeats 4000000 in
theorem equal_any {b w : World} {xs ys : Tree} {vx vy : Value} (hB : Below b.heap.size b w) (hX : TL b .ts xs vx) (hY : TL b .ts ys vy) :
    Calls Tryz.prog 173 #[vx, vy] w fun e w' => e = .returned (.bool (eqT xs ys)) ∧ ∃ m, w' = w.drewN m := by
  obtain ⟨A, c, rfl⟩ := hX.sl
  obtain ⟨B, d, rfl⟩ := hY.sl
  have px := prop_ok (by intro h; cases h) (by intro h; cases h) hX.ok
  have py := prop_ok (by intro h; cases h) (by intro h; cases h) hY.ok
  have EQ := eq_list px py
  have hfx := hX.few
  by_cases hl : lenT xs = lenT ys
  · have HX := Lib.hid hX
    have HY := Lib.hid hY
    have HB := Lib.hid hB
    have HEQ := Lib.hid EQ
    have n0 : (((lenT xs : Nat) : Int) != ((lenT ys : Nat) : Int)) = false := by rw [hl]; simp
    have n1 : (((lenT xs : Nat) : Int) == ((lenT ys : Nat) : Int)) = true := by rw [hl]; simp
    replace hl := Lib.hid hl
    generalize hr : eqT xs ys = r
    have HR := Lib.hid hr
    clear hX hY hB EQ px py hr
    go_enter Tryz.func173, Tryz.ntmps173
    go_wp2
    go_loopw [5, 13] (fun _ i wr => ∃ j m : Nat, j ≤ lenT xs ∧ i = iV j ∧ wr = w.drewN m ∧ Hid (∀ i, i < j → eqT (getT xs i) (getT ys i) = true)) (fun _ i _ => lenT xs - (intOf i).toNat)
    case atStart => exact ⟨0, 0, Nat.zero_le _, rfl, rfl, Lib.hid fun i hi => absurd hi (by omega)⟩
    case round =>
      obtain ⟨j, m, hj, rfl, rfl, hF⟩ := hrel
      by_cases hlt : j < lenT xs
      · obtain ⟨gA, x, rfl, hgA, hcA, ex, lx⟩ := HX.out.getP j hlt
        obtain ⟨gB, y, rfl, hgB, hcB, ey, ly⟩ := HY.out.getP j (by rw [← hl.out]; exact hlt)
        have q1 := (HB.out.cell (p := ⟨gA, j, none⟩) hgA).trans hcA
        have q2 := (HB.out.cell (p := ⟨gB, j, none⟩) hgB).trans hcB
        have k0 : (0 : Int) ≤ (j : Int) := by omega
        have k1 : (j : Int) < (lenT xs : Int) := by omega
        have k2 : (j : Int) < (lenT ys : Int) := by have := hl.out; omega
        have hxy : eqT (getT xs j) (getT ys j) = (x == y) := by rw [ex, ey]; rfl
        by_cases hq : x = y
        · have q3 := P5.beq_yes hq
          have q4 : (x != y) = false := by rw [bne, q3]; rfl
          rw [q3] at hxy
          have HXY := Lib.hid hxy
          clear hxy hq hcA hcB hgA hgB hlt ex ey
          go_wp2_with fail
          go_quiet (fail)
          go_wp2
          go_roundw
          case rel => exact ⟨j + 1, _, by omega, by go_num, by first | rfl | exact drewN_add _ _ _, Lib.hid fun i hi => by
            rcases Nat.lt_or_ge i j with h | h
            · exact hF.out i h
            · obtain rfl : i = j := by omega
              exact HXY.out⟩
          case measure => show _ - (((j : Int) + 1)).toNat < _ - ((j : Int)).toNat; omega
        · have q3 := P5.beq_no hq
          have q4 : (x != y) = true := by rw [bne, q3]; rfl
          rw [q3] at hxy
          have hrf : r = false := by
            cases r with
            | false => rfl
            | true => have := (HEQ.out.1 HR.out).2 j hlt; rw [hxy] at this; cases this
          subst hrf
          clear hxy hq hcA hcB hgA hgB hlt ex ey
          go_wp2_with fail
          go_quiet (fail)
          go_wp2
          go_ret
          exact ⟨rfl, _, by first | rfl | exact drewN_add _ _ _⟩
      · obtain rfl : j = lenT xs := by omega
        have k1 : ¬ (lenT xs : Int) < (lenT xs : Int) := by omega
        have hrt : r = true := by rw [← HR.out]; exact HEQ.out.2 ⟨hl.out, hF.out⟩
        subst hrt
        go_wp2
        go_ret
        exact ⟨rfl, _, rfl⟩
  · have n0 : (((lenT xs : Nat) : Int) != ((lenT ys : Nat) : Int)) = true := by simp; omega
    have n1 : (((lenT xs : Nat) : Int) == ((lenT ys : Nat) : Int)) = false := beq_eq_false_iff_ne.2 (by omega)
    have he : eqT xs ys = false := by
      cases hq : eqT xs ys with
      | false => rfl
      | true => exact absurd (EQ.1 hq).1 hl
    rw [he]
    clear EQ hl hX hY px py
    go_enter Tryz.func173, Tryz.ntmps173
    go_wp2
    go_ret
    exact ⟨rfl, 0, rfl⟩
end Go.Proofs.YtoggkigfijgbfaaGreatDoor.P6
namespace Go.Proofs.YtoggkigfijgbfaaGreatDoor.P6
set_option maxRecDepth 20000
open Go.RowKit

theorem eqT_ex {t u : Tree} (ht : isX t = true) (hu : isX u = true) : eqT t u = (kindT t == kindT u && (numT t == numT u && (nameT6 t == nameT6 u && (eqT (leftT t) (leftT u) && (eqT (rightT t) (rightT u) && (eqT (keysT t) (keysT u) && (eqT (argsT t) (argsT u) && (eqT (parsT t) (parsT u) && eqT (bodyT t) (bodyT u))))))))) := by
  cases t <;> first | cases ht | skip
  cases u <;> first | cases hu | skip
  rfl
theorem eqT_st {t u : Tree} (ht : isS t = true) (hu : isS u = true) : eqT t u = (kindT t == kindT u && (nameT6 t == nameT6 u && (eqT (leftT t) (leftT u) && (eqT (rightT t) (rightT u) && (eqT (toT t) (toT u) && (eqT (aT t) (aT u) && eqT (bT t) (bT u))))))) := by
  cases t <;> first | cases ht | skip
  cases u <;> first | cases hu | skip
  rfl
theorem size_ex {t : Tree} (ht : isX t = true) : sizeT t = 1 + (sizeT (leftT t) + (sizeT (rightT t) + (sizeT (keysT t) + (sizeT (argsT t) + sizeT (bodyT t))))) := by
  cases t <;> first | rfl | cases ht
theorem size_st {t : Tree} (ht : isS t = true) : sizeT t = 1 + (sizeT (leftT t) + (sizeT (rightT t) + (sizeT (toT t) + (sizeT (aT t) + sizeT (bT t))))) := by
  cases t <;> first | rfl | cases ht
theorem Cmp.yes {p k n : Nat} {ok : Bool} {w w' : World} {e : Ending} (h : Cmp p k ok n w e w') (hv : (ok && decide (k + n ≤ 65536)) = true) : e = .returned (.bool true) ∧ PA w' p (k + n) ∧ Past [p] w w' := by
  have h2 := hv
  simp only [Bool.and_eq_true, decide_eq_true_eq] at h2
  exact ⟨by rw [h.ret, hv], h.cell h2.1 h2.2, h.past⟩
theorem Cmp.no {p k n : Nat} {ok : Bool} {w w' : World} {e : Ending} (h : Cmp p k ok n w e w') (hv : (ok && decide (k + n ≤ 65536)) = false) : e = .returned (.bool false) ∧ Past [p] w w' := ⟨by rw [h.ret, hv], h.past⟩
theorem cmp_false {p k n : Nat} {ok : Bool} {w w' : World} (h : (ok && decide (k + n ≤ 65536)) = false) (hp : Past [p] w w') : Cmp p k ok n w (.returned (.bool false)) w' :=
  ⟨by rw [h], fun h1 h2 => (by rw [h1, decide_eq_true h2] at h; cases h), hp⟩
theorem cmp_true {p k n : Nat} {ok : Bool} {w w' : World} (h : ok = true) (hq : PA w' p (k + n)) (hp : Past [p] w w') : Cmp p k ok n w (.returned (.bool true)) w' :=
  ⟨by rw [h, decide_eq_true hq.le]; rfl, fun _ _ => hq, hp⟩
/-- The contracts up to a depth. -/
structure SSpec (b : World) (p n : Nat) : Prop where
  expr : ∀ {w : World} {k : Nat} {t u : Tree} {x y : Value}, Below b.heap.size b w → PA w p k → TE b t x → TE b u y → depthT t < n → Calls Tryz.prog 127 #[pV p, x, y] w (Cmp p k (eqT t u) (sizeT t) w)
  stmt : ∀ {w : World} {k : Nat} {t u : Tree} {x y : Value}, Below b.heap.size b w → PA w p k → TS b t x → TS b u y → depthT t < n → Calls Tryz.prog 67 #[pV p, x, y] w (Cmp p k (eqT t u) (sizeT t) w)
theorem below_past {b w w1 : World} {p : Nat} (hp : b.heap.size ≤ p) (hB : Below b.heap.size b w) (h : Past [p] w w1) : Below b.heap.size b w1 := hB.trans (h.toBelow hB.size (by intro i hi; simp at hi; omega))
theorem enter_ofStmt (args : Array Value) (w : World) : (callFunc 67 args).run Tryz.prog w = .ok (.enter 67 args) w := enters_of Tryz.func67 (by kernel_rfl) rfl args w
set_option maxHeartbeats 1000000 in
theorem SSpec.ofStmts {b w : World} {p k n : Nat} (S : SSpec b p n) (hp : b.heap.size ≤ p) {t u : Tree} {x y : Value} (hB : Below b.heap.size b w) (h : PA w p k) (hX : TL b .ss t x) (hY : TL b .ss u y) (hd : depthT t < n) : Calls Tryz.prog 40 #[pV p, x, y] w (Cmp p k (eqT t u) (sizeT t) w) := by
  obtain ⟨A, c, rfl⟩ := hX.sl
  obtain ⟨B, d, rfl⟩ := hY.sl
  have C := Lib.hid (eqfS (K := 67) hp hB hX hY h (fun w1 k1 x1 y1 t1 u1 a1 a2 a3 a4 a5 => S.stmt (below_past hp hB a4) a5 a1 a2 (by omega)) enter_ofStmt)
  clear hX hY h S
  go_enter Tryz.func40, Tryz.ntmps40
  go_wp2_with (go_at_call 66; (with_reducible refine C.out.mono ?_); rintro e w1 hC; obtain ⟨h1, h2, h3⟩ := hC; subst h1)
  go_ret
  exact ⟨rfl, h2, h3⟩
theorem enter_ofExpr (args : Array Value) (w : World) : (callFunc 127 args).run Tryz.prog w = .ok (.enter 127 args) w := enters_of Tryz.func127 (by kernel_rfl) rfl args w
set_option maxHeartbeats 1000000 in
theorem SSpec.ofExprs {b w : World} {p k n : Nat} (S : SSpec b p n) (hp : b.heap.size ≤ p) {t u : Tree} {x y : Value} (hB : Below b.heap.size b w) (h : PA w p k) (hX : TL b .es t x) (hY : TL b .es u y) (hd : depthT t < n) : Calls Tryz.prog 172 #[pV p, x, y] w (Cmp p k (eqT t u) (sizeT t) w) := by
  obtain ⟨A, c, rfl⟩ := hX.sl
  obtain ⟨B, d, rfl⟩ := hY.sl
  have C := Lib.hid (eqfE (K := 127) hp hB hX hY h (fun w1 k1 x1 y1 t1 u1 a1 a2 a3 a4 a5 => S.expr (below_past hp hB a4) a5 a1 a2 (by omega)) enter_ofExpr)
  clear hX hY h S
  go_enter Tryz.func172, Tryz.ntmps172
  go_wp2_with (go_at_call 217; (with_reducible refine C.out.mono ?_); rintro e w1 hC; obtain ⟨h1, h2, h3⟩ := hC; subst h1)
  go_ret
  exact ⟨rfl, h2, h3⟩
theorem past_drewN (E : List Nat) (w : World) (m : Nat) : Past E w (w.drewN m) := past_of_below (below_dN (Below.refl _ _) m)
theorem PA.drewN {w : World} {p k : Nat} (h : PA w p k) (m : Nat) : PA (w.drewN m) p k := ⟨h.c, h.f, h.le⟩
end Go.Proofs.YtoggkigfijgbfaaGreatDoor.P6
