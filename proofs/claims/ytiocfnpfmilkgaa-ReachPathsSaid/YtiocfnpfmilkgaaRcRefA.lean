/- tallowref11.There, objects; ahead of them plain words on the rounds. -/
import Derived.Test.YtiocfnpfmilkgaaRcLawM
import Derived.Test.YtiocfnpfmilkgaaRcMarkM
import Derived.Test.YtiocfnpfmilkgaaRcMark
import Derived.Lib.QuietBelow
import Derived.BigQuiet
namespace Go.Proofs.Ytiocfnpfmilkgaa
set_option maxRecDepth 20000


/-- M1 is M and the objects S (by their indices); more: one was new. -/
structure Adds (n : Nat) (M : Nat → Bool) (S : List Nat) (M1 : Nat → Bool) (more : Bool) : Prop where
  sub : ∀ i, M i = true → M1 i = true
  fine : ∀ i, M1 i = true → M i = true ∨ i + 1 ∈ S
  all : ∀ x ∈ S, M1 (x - 1) = true
  no : more = false → M1 = M
  yes : more = true → ∃ i, i < n ∧ M i = false ∧ M1 i = true
theorem Adds.nil (n : Nat) (M : Nat → Bool) : Adds n M [] M false := ⟨fun _ h => h, fun _ h => Or.inl h, (fun _ h => by cases h), fun _ => rfl, (fun h => by cases h)⟩
theorem Adds.old {n : Nat} {M : Nat → Bool} {S : List Nat} {M1 : Nat → Bool} {more : Bool} (h : Adds n M S M1 more) {x : Nat} (hx : M1 (x - 1) = true) : Adds n M (S ++ [x]) M1 more :=
  ⟨h.sub, fun i hi => (h.fine i hi).imp id fun e => List.mem_append_left _ e, (fun y hy => by
    rcases List.mem_append.1 hy with hy | hy
    · exact h.all y hy
    · simp at hy; subst hy; exact hx), h.no, h.yes⟩
theorem Adds.new {n : Nat} {M : Nat → Bool} {S : List Nat} {M1 : Nat → Bool} {more : Bool} (h : Adds n M S M1 more) {x : Nat} (h1 : 1 ≤ x) (hn : x ≤ n) (hx : M1 (x - 1) = false) : Adds n M (S ++ [x]) (setM M1 (x - 1)) true := by
  have hs : ∀ i, setM M1 (x - 1) i = (i == x - 1 || M1 i) := fun i => rfl
  refine ⟨fun i hi => by rw [hs, h.sub i hi]; simp, fun i hi => ?_, fun y hy => ?_, (fun e => by cases e), fun _ => ⟨x - 1, by omega, ?_, by rw [hs]; simp⟩⟩
  · rw [hs, Bool.or_eq_true, beq_iff_eq] at hi
    rcases hi with rfl | hi
    · exact Or.inr (by simp; omega)
    · exact (h.fine i hi).imp id fun e => List.mem_append_left _ e
  · rw [hs]
    rcases List.mem_append.1 hy with hy | hy
    · rw [h.all y hy]; simp
    · simp at hy; subst hy; simp
  · cases e : M (x - 1) with
    | false => rfl
    | true => rw [h.sub _ e] at hx; cases hx
theorem objP_more {g : List OB} {L : List Int} {k : Nat} {x : Int} (h : L[k]? = some x) (hr : thereN g x.toNat = true) : objP g L (k + 1) = objP g L k ++ [x.toNat] := by
  unfold objP; rw [List.take_add_one, h]; simp [hr]
/-- What reached knows: what was seen can be reached, the roots were seen. -/
structure Seen (g : List OB) (S : List Nat) (M : Nat → Bool) : Prop where
  root : ∀ x ∈ S, M (x - 1) = true
  fine : ∀ i, M i = true → Rch g S (i + 1)
/-- Of the objects up to i: what was seen holds nothing that was not. -/
def ClosedTo (g : List OB) (M : Nat → Bool) (i : Nat) : Prop := ∀ j, j < i → M j = true → ∀ x ∈ heldN g (j + 1), M (x - 1) = true
theorem Seen.start {g : List OB} {S : List Nat} {n : Nat} {M1 : Nat → Bool} {more : Bool} (h : Adds n (fun _ => false) S M1 more) : Seen g S M1 := ⟨h.all, fun i hi => by
  rcases h.fine i hi with e | e
  · cases e
  · exact .root e⟩
theorem Seen.more {g : List OB} {S : List Nat} {M : Nat → Bool} (h : Seen g S M) {n i : Nat} {M1 : Nat → Bool} {b : Bool} (ha : Adds n M (heldN g (i + 1)) M1 b) (hi : M i = true) : Seen g S M1 :=
  ⟨fun x hx => ha.sub _ (h.root x hx), fun j hj => by
    rcases ha.fine j hj with e | e
    · exact h.fine j e
    · exact .step (h.fine i hi) e⟩
theorem ClosedTo.same {g : List OB} {M : Nat → Bool} {i n : Nat} (h : ClosedTo g M i) {b : Bool} (ha : Adds n M (heldN g (i + 1)) M b) : ClosedTo g M (i + 1) := fun j hj hm x hx => by
  by_cases e : j = i
  · subst e; exact ha.all x hx
  · exact h j (by omega) hm x hx
theorem ClosedTo.skip {g : List OB} {M : Nat → Bool} {i : Nat} (h : ClosedTo g M i) (hi : M i = false) : ClosedTo g M (i + 1) := fun j hj hm x hx => by
  by_cases e : j = i
  · subst e; rw [hi] at hm; cases hm
  · exact h j (by omega) hm x hx
theorem Seen.fin {g : List OB} (hc : checkB g = true) {S : List Nat} {M : Nat → Bool} (h : Seen g S M) (hcl : ClosedTo g M g.length) : ∀ i, i < g.length → M i = reachB g S (i + 1) := by
  have key : ∀ m, Rch g S m → M (m - 1) = true := by
    intro m hm
    induction hm with
    | root hx => exact h.root _ hx
    | step hr hx ih =>
      rename_i m x
      have ht := there_le (held_from hc hx)
      exact hcl (m - 1) (by omega) ih x (by rw [show m - 1 + 1 = m by omega]; exact hx)
  intro i hi
  rw [Bool.eq_iff_iff, reachB_iff]
  exact ⟨h.fine i, fun hr => by have := key _ hr; rwa [Nat.add_sub_cancel] at this⟩
/-- How many of the first n were not seen. -/
def unN (n : Nat) (M : Nat → Bool) : Nat := (List.range n).countP fun i => !M i
theorem unN_le (n : Nat) (M : Nat → Bool) : unN n M ≤ n := Nat.le_trans List.countP_le_length (by simp)
theorem unN_sub {n : Nat} {M M1 : Nat → Bool} (h : ∀ i, M i = true → M1 i = true) : unN n M1 ≤ unN n M := by
  unfold unN
  refine List.countP_mono_left fun i _ hi => ?_
  cases e : M i with
  | false => rfl
  | true => rw [h i e] at hi; cases hi
theorem unN_less {n : Nat} {M M1 : Nat → Bool} (h : ∀ i, M i = true → M1 i = true) (hn : ∃ i, i < n ∧ M i = false ∧ M1 i = true) : unN n M1 < unN n M := by
  obtain ⟨i, hi, h0, h1⟩ := hn
  unfold unN
  have hm : i ∈ List.range n := List.mem_range.2 hi
  generalize List.range n = L at hm
  induction L with
  | nil => cases hm
  | cons a r ih =>
    rw [List.countP_cons, List.countP_cons]
    have hle : r.countP (fun i => !M1 i) ≤ r.countP fun i => !M i := List.countP_mono_left fun j _ hj => by
      cases e : M j with
      | false => rfl
      | true => rw [h j e] at hj; cases hj
    rcases List.mem_cons.1 hm with e | hm
    · subst e
      rw [h0, h1]; simp; omega
    · have := ih hm
      cases e : M a with
      | false => cases M1 a <;> simp <;> omega
      | true => rw [h a e]; simp; omega

open Go.RowKit Go.Maps

theorem RThere_any {w : World} {A : Option Addr} {c : Nat} {g : List OB} (hg : GAt w A g) (_hn : g.length * 64 ≤ 140737488355328) (m : Int) (h1 : -9223372036854775808 ≤ m) (h2 : m ≤ 9223372036854775807) :
    Calls Try.prog 75 #[gV A g.length c, iV m] w fun e w' => e = .returned (.bool (decide (1 ≤ m) && thereN g m.toNat)) ∧ Below w.heap.size w w' := by
  by_cases hm : 1 ≤ m
  · obtain ⟨k, rfl⟩ : ∃ k : Nat, m = (k : Int) + 1 := ⟨(m - 1).toNat, by omega⟩
    have e1 : ((k : Int) + 1).toNat = k + 1 := by omega
    have d1 : decide (1 ≤ (k : Int) + 1) = true := by simp; omega
    rw [e1, d1, Bool.true_and]
    by_cases hk : k < g.length
    · obtain ⟨o, ho⟩ : ∃ o, g[k]? = some o := ⟨_, List.getElem?_eq_getElem hk⟩
      obtain ⟨a, sA, sc, rfl, hal, ⟨c0, c1, c2, c3, c4⟩, hs⟩ := hg k o ho
      rw [there_at ho]
      have d2 : decide ((k : Int) + 1 ≤ (g.length : Int)) = true := by simp; omega
      clear hg ho hs c1 c2 c3 c4
      generalize g.length = n at *
      have hl2 : (a.add (k * 5)).block < w.heap.size := by rw [Go.ChangeShapes.block_add]; exact hal
      go_enter Try.func75, Try.ntmps75
      go_wp2
      go_ret
      exact ⟨rfl, (Below.refl _ _).alloc (Nat.le_refl _) _⟩
    · rw [there_past (by omega)]
      have d2 : decide ((k : Int) + 1 ≤ (g.length : Int)) = false := by simp; omega
      clear hg
      generalize g.length = n at *
      go_enter Try.func75, Try.ntmps75
      go_wp2
      go_ret
      exact ⟨rfl, (Below.refl _ _).alloc (Nat.le_refl _) _⟩
  · have d1 : decide (1 ≤ m) = false := by simpa using hm
    rw [d1, Bool.false_and]
    clear hg
    generalize g.length = n at *
    go_enter Try.func75, Try.ntmps75
    go_wp2
    go_ret
    exact ⟨rfl, (Below.refl _ _).alloc (Nat.le_refl _) _⟩
set_option maxHeartbeats 4000000 in
theorem Robjects_any {w0 w : World} {A : Option Addr} {c : Nat} {g : List OB} (hg : GAt w0 A g) (hn : g.length ≤ 900) {B : Option Addr} {d : Nat} {l : List (Int × Int)} (hl : l.length * 16 ≤ 140737488355328) (hB : PairsAt w0 B l) (hb : Below w0.heap.size w0 w) {b : Nat} (hlo : w0.heap.size ≤ b) {M : Nat → Bool} (hR : RowB w b g.length M) :
    Calls Try.prog 103 #[gV A g.length c, .slice B l.length d, .slice (some ⟨b, 0, none⟩) g.length g.length] w fun e w' => ∃ M1 more, e = .returned (.bool more) ∧ RowB w' b g.length M1 ∧ Adds g.length M (objsN g l) M1 more ∧ Frm (fun k => k = b) w w' := by
  have TH : Hid (∀ W (x : Int), Below w0.heap.size w0 W → 1 ≤ x → x ≤ 2147483647 → Calls Try.prog 75 #[gV A g.length c, iV x] W fun e w' => e = .returned (.bool (thereN g x.toNat)) ∧ Below W.heap.size W w') := fun W x hW h1 h2 => by
    have := RThere_any (c := c) (hg.below hW) (by omega) x (by omega) (by omega)
    rwa [decide_eq_true h1, Bool.true_and] at this
  have RF : Hid (∀ W, Below w0.heap.size w0 W → Calls Try.prog 77 #[.slice B l.length d] W (fun e w' => ∃ A1 c1, e = .returned (.slice A1 (refsL l).length c1) ∧ IntsAt w' A1 (refsL l) ∧ (∀ a, A1 = some a → W.heap.size ≤ a.block) ∧ Below W.heap.size W w')) := fun W hW => (RRefs_any B d l W hl (pairs_below hB hW)).mono fun e w' ⟨v, h1, h2, h3⟩ => by
    obtain ⟨A1, c1, rfl, h4, h5⟩ := ints_of_own2 h2
    exact ⟨A1, c1, h1, h4, h5, h3⟩
  have RG : Hid (∀ x ∈ refsL l, 1 ≤ x ∧ x ≤ 2147483647) := fun x hx => refs_range hx
  have OF : Hid (objP g (refsL l) (refsL l).length = objsN g l) := objP_full g (refsL l)
  have OY : Hid (∀ k x, (refsL l)[k]? = some x → thereN g x.toNat = true → objP g (refsL l) (k + 1) = objP g (refsL l) k ++ [x.toNat]) := fun k x h1 h2 => objP_more h1 h2
  have ON : Hid (∀ k x, (refsL l)[k]? = some x → thereN g x.toNat = false → objP g (refsL l) (k + 1) = objP g (refsL l) k) := fun k x h1 h2 => objP_no h1 h2
  have TL : Hid (∀ x, thereN g x = true → 1 ≤ x ∧ x ≤ g.length) := fun x h => there_le h
  have O0 : Hid (objP g (refsL l) 0 = []) := (rfl : objP g (refsL l) 0 = [])
  have RL : Hid ((refsL l).length ≤ 8796093022208) := Nat.le_trans (refsL_len l) (by omega)
  rw [← OF.out]
  have R0 := Lib.hid hR
  have hbl := hR.lt
  have B0 := Lib.hid hb
  clear hg hB hl hR hb OF
  generalize objP g (refsL l) = S at *
  generalize refsL l = R at *
  generalize l.length = nl at *
  have hTt : ∃ th : Nat → Bool, th = thereN g := ⟨_, rfl⟩
  obtain ⟨th, hth⟩ := hTt
  rw [← hth] at TH OY ON TL
  clear hth
  generalize g.length = n at *
  go_enter Try.func103, Try.ntmps103
  go_wp2_with (go_at_call 77; (with_reducible refine (RF.out _ (B0.out.alloc B0.out.size _)).mono ?_); rintro e V ⟨A1, c1, rfl, i1, l1, hb1⟩; have I1B : Hid (∀ a, A1 = some a → ¬ a.block = b) := (fun a e => by have := l1 a e; simp at this; omega); have I1 := Lib.hid i1; have c0 := boxed hb1 (j := 0) rfl; have BV : Hid (Below w.heap.size w V) := below_box hb1; have zV : w.heap.size < V.heap.size := (by have := hb1.size; simp at this; omega); clear i1 hb1 l1)
  have RV : Hid (RowB V b n M) := R0.out.below BV.out
  have c0' : V.cell? ⟨w.heap.size, 0, none⟩ = some (.slice A n c) := c0
  have BVV : Hid (Below w0.heap.size w0 V) := B0.out.trans (BV.out.mono B0.out.size)
  have hne : ¬ w.heap.size = b := by omega
  clear c0
  go_loopg [7, 9] R.length (fun gg s7 s9 wr => ∃ (k : Nat) (M1 : Nat → Bool) (more : Bool), k ≤ R.length ∧ R.length - k ≤ gg ∧ s9 = .int .i64 k ∧ s7 = .bool more ∧ Hid (RowB wr b n M1) ∧ Hid (Adds n M (S k) M1 more) ∧ Hid (Frm (fun x => x = b) V wr))
  case atStart => exact ⟨0, M, false, Nat.zero_le _, by omega, rfl, rfl, RV.out, (show Adds _ _ _ _ _ by rw [O0.out]; exact Adds.nil n M), Frm.refl _ _⟩
  case round =>
    obtain ⟨k, M1, more, hk, hgg, rfl, rfl, RR, AD, FF⟩ := hrel
    by_cases hlt : k < R.length
    · obtain ⟨x, hx⟩ : ∃ x, R[k]? = some x := ⟨_, List.getElem?_eq_getElem hlt⟩
      obtain ⟨x1, x2⟩ := RG.out x (List.mem_of_getElem? hx)
      obtain ⟨ad, e, hal, hcx⟩ := (ints_frm FF.out I1.out I1B.out) k x hx
      subst e
      have x0 : wr.cell? ⟨w.heap.size, 0, none⟩ = some (.slice A n c) := (FF.out.cell (p := ⟨w.heap.size, 0, none⟩) zV hne).trans c0'
      have hlen : (k : Int) < (R.length : Int) := by omega
      have hrl := RL.out
      have BW : Hid (Below w0.heap.size w0 wr) := below_frm BVV.out FF.out (fun j hj => by omega)
      have OYx := OY.out k x hx
      have ONx := ON.out k x hx
      have HX := Lib.hid hx
      have r0 := fun d os => cell_regrown x0 d os
      have r1 := fun d os => cell_regrown hcx d os
      have cr := fun d os => Calls.regrown_of (TH.out (Go.Sort.grow (redrawn wr d) os) x (BW.out.trans ((below_regrown wr d os).mono BW.out.size)) x1 x2)
      clear hx
      cases ht : th x.toNat with
      | false =>
        rw [ht] at cr
        have E1 := Lib.hid (ONx ht)
        clear OYx ONx ht
        go_wp2_with fail
        refine wp_region_quiet_below (by kernel_rfl) (by kernel_rfl) ?_
        repeat (go_big_quiet_step (with_reducible exact cr _ _))
        refine wpQuiet_nil ?_
        intro w3 ⟨⟨dq, osq⟩, hw3⟩
        have B3 : Hid (Below wr.heap.size wr w3) := by rw [hw3]; exact below_regrown wr dq osq
        clear hw3 r0 r1 cr
        go_wp2_with fail
        go_roundg (R.length - (k + 1))
        case measure => omega
        case rel => exact ⟨k + 1, M1, more, by omega, by omega, by go_num, rfl, RR.out.below B3.out, (show Adds _ _ _ _ _ by rw [E1.out]; exact AD.out), FF.out.trans (Frm.of_below _ B3.out)⟩
      | true =>
        rw [ht] at cr
        have E1 := Lib.hid (OYx ht)
        obtain ⟨t1, t2⟩ := TL.out _ ht
        clear OYx ONx ht
        obtain ⟨j, hj⟩ : ∃ j : Nat, j = x.toNat - 1 := ⟨_, rfl⟩
        have hjn : j < n := by omega
        have hcast : x - 1 = (j : Int) := by omega
        have hwr : IntKind.i64.wrap (j : Int) = (j : Int) := IntWalk.i64_in _ (by omega)
        have hjn2 : (j : Int) < (n : Int) := by omega
        have y0 := World.rowIs.cell RR.out hjn
        cases hq : M1 j with
        | true =>
          rw [hq] at y0
          have r2 := fun d os => cell_regrown y0 d os
          have A2 : Hid (Adds n M (S (k + 1)) M1 more) := (show Adds _ _ _ _ _ by rw [E1.out]; exact AD.out.old (by rw [← hj]; exact hq))
          clear hq hj
          go_wp2_with fail
          refine wp_region_quiet_below (by kernel_rfl) (by kernel_rfl) ?_
          repeat (go_big_quiet_step (with_reducible exact cr _ _))
          refine wpQuiet_nil ?_
          intro w3 ⟨⟨dq, osq⟩, hw3⟩
          have B3 : Hid (Below wr.heap.size wr w3) := by rw [hw3]; exact below_regrown wr dq osq
          clear hw3 r0 r1 cr r2 y0 hcast hwr
          go_wp2_with fail
          go_roundg (R.length - (k + 1))
          case measure => omega
          case rel => exact ⟨k + 1, M1, more, by omega, by omega, by go_num, rfl, RR.out.below B3.out, A2.out, FF.out.trans (Frm.of_below _ B3.out)⟩
        | false =>
          rw [hq] at y0
          have r2 := fun d os => cell_regrown y0 d os
          have A2 : Hid (Adds n M (S (k + 1)) (setM M1 j) true) := (show Adds _ _ _ _ _ by rw [E1.out, hj]; exact AD.out.new t1 t2 (by rw [← hj]; exact hq))
          clear hq hj
          go_wp2_with fail
          refine wp_region_quiet_below (by kernel_rfl) (by kernel_rfl) ?_
          repeat (go_big_quiet_step (with_reducible exact cr _ _))
          refine wpQuiet_nil ?_
          intro w3 ⟨⟨dq, osq⟩, hw3⟩
          have B3 : Hid (Below wr.heap.size wr w3) := by rw [hw3]; exact below_regrown wr dq osq
          clear hw3 r0 r1 cr r2
          have R3 := Lib.hid (RR.out.below B3.out)
          have q0 := (B3.out.cell (World.block_lt_of_cell? _ _ hcx)).trans hcx
          have q1 := (B3.out.cell (p := ⟨b, j, none⟩) RR.out.lt).trans y0
          have f1 := World.rowIs.frozen R3.out j
          have R4 : Hid (RowB (w3.setCell ⟨b, j, none⟩ (.bool true)) b n (setM M1 j)) := R3.out.set
          have F4 : Hid (Frm (fun x => x = b) V (w3.setCell ⟨b, j, none⟩ (.bool true))) := (FF.out.trans (Frm.of_below _ B3.out)).set rfl _
          go_wp2_with fail
          go_roundg (R.length - (k + 1))
          case measure => omega
          case rel => exact ⟨k + 1, _, true, by omega, by omega, by go_num, rfl, R4.out, A2.out, F4.out⟩
    · have hkn : k = R.length := by omega
      have A2 := AD.out
      rw [hkn] at A2
      have AH := Lib.hid A2
      clear A2 hkn
      go_wp2_with fail
      go_ret
      exact ⟨M1, more, rfl, RR.out, AH.out, (Frm.of_below _ BV.out).trans FF.out⟩
end Go.Proofs.Ytiocfnpfmilkgaa
