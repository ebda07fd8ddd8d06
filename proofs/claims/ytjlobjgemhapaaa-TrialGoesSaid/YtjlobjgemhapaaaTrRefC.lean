/- tallowref12.within, from. -/
import Derived.Test.YtjlobjgemhapaaaTrRefB
import Derived.Test.YtjlobjgemhapaaaTrRightN
namespace Go.Proofs.Ytjlobjgemhapaaa
set_option maxRecDepth 20000
open Go.RowKit Go.Maps

theorem meet_filter2 {p q : Int → Bool} (h : ∀ x, p x = true → q x = true) : ∀ {l met : List Int}, meetL p met (l.filter q) = meetL p met l
  | [], _ => rfl
  | n :: l, met => by
    cases hq : q n with
    | true =>
      rw [List.filter_cons_of_pos hq, meet_cons, meet_cons]
      exact meet_filter2 h
    | false =>
      have : p n = false := by
        cases hp : p n with
        | false => rfl
        | true => rw [h n hp] at hq; cases hq
      rw [List.filter_cons_of_neg (by simp [hq]), meet_cons, if_pos (.inr this)]
      exact meet_filter2 h
/-- How often slots of these objects hold one. -/
def withN (g : List OB) (L : List Int) (n : Int) (k : Nat) : Nat := ((L.take k).map fun m => (refsAt g (m - 1).toNat).count n).sum
theorem withN_step {g : List OB} {L : List Int} {n m : Int} {k : Nat} (h : L[k]? = some m) : withN g L n (k + 1) = withN g L n k + (refsAt g (m - 1).toNat).count n := by
  unfold withN; rw [List.take_add_one, h, List.map_append, List.sum_append]; simp
theorem withN_le {g : List OB} (hs : ∀ o ∈ g, o.slots.length ≤ 1048576) (L : List Int) (n : Int) (k : Nat) : withN g L n k ≤ k * 1048576 := by
  unfold withN
  have one : ∀ m : Int, (refsAt g (m - 1).toNat).count n ≤ 1048576 := fun m => by
    unfold refsAt
    split
    · rename_i o ho
      exact Nat.le_trans List.count_le_length (Nat.le_trans (refsL_len _) (hs o (List.mem_of_getElem? ho)))
    · simp
  have key : ∀ l : List Int, (l.map fun m => (refsAt g (m - 1).toNat).count n).sum ≤ l.length * 1048576 := by
    intro l
    induction l with
    | nil => simp
    | cons x r ih =>
      have := one x
      simp only [List.map_cons, List.sum_cons, List.length_cons, Nat.succ_mul]
      omega
  have h1 := key (L.take k)
  have h2 : (L.take k).length ≤ k := List.length_take_le _ _
  exact Nat.le_trans h1 (Nat.mul_le_mul_right 1048576 h2)
/-- The rounds of meeting. -/
def metW (p : Int → Bool) (met l : List Int) (k : Nat) : List Int := meetL p met (l.take k)
theorem metW_full (p : Int → Bool) (met l : List Int) : metW p met l l.length = meetL p met l := by unfold metW; rw [List.take_of_length_le (Nat.le_refl _)]
theorem metW_yes {p : Int → Bool} {met l : List Int} {k : Nat} {x : Int} (h : l[k]? = some x) (h1 : p x = true) (h2 : x ∉ metW p met l k) : metW p met l (k + 1) = metW p met l k ++ [x] := by
  unfold metW at *; rw [meet_take h, if_neg]
  rintro (h | h)
  · exact h2 h
  · rw [h1] at h; cases h
theorem metW_no {p : Int → Bool} {met l : List Int} {k : Nat} {x : Int} (h : l[k]? = some x) (h1 : p x = false ∨ x ∈ metW p met l k) : metW p met l (k + 1) = metW p met l k := by
  unfold metW at *; rw [meet_take h, if_pos]
  rcases h1 with h | h
  · exact .inr h
  · exact .inl h
set_option maxHeartbeats 8000000 in
theorem RWithin_any {w : World} {A : Option Addr} {c : Nat} {g : List OB} (hg : GAt w A g) (hn : g.length ≤ 900) (hs : ∀ o ∈ g, o.slots.length ≤ 1048576) {B : Option Addr} {d : Nat} {L : List Int} (hl : L.length ≤ 900) (h : IntsAt w B L) (hr : ∀ x ∈ L, looksB g x = true) (n : Int) :
    Calls Try.prog 46 #[gV A g.length c, .slice B L.length d, iV n] w fun e w' => e = .returned (iV (withN g L n L.length : Nat)) ∧ Below w.heap.size w w' := by
  have G := Lib.hid hg
  have HB := Lib.hid h
  have TI : Hid (∀ (W : World) (i : Nat) (o : OB) (sA : Option Addr) (sc : Nat), Below w.heap.size w W → g[i]? = some o → SlotsAt w o sA → Calls Try.prog 92 #[.slice sA o.slots.length sc, iV n] W fun e w' => e = .returned (iV ((refsL o.slots).count n : Nat)) ∧ Below W.heap.size W w') := fun W i o sA sc hW ho hs => RTimes_any (by have := hs.2; omega) (pairs_below hs.1 hW) n
  have WS : Hid (∀ (k : Nat) (m : Int), L[k]? = some m → withN g L n (k + 1) = withN g L n k + (refsAt g (m - 1).toNat).count n) := fun k m => withN_step
  have WB : Hid (∀ k, withN g L n k ≤ k * 1048576) := withN_le hs L n
  have W0 : Hid (withN g L n 0 = 0) := (rfl : withN g L n 0 = 0)
  have LX : Hid (∀ x ∈ L, ∃ (k : Nat) (o : OB), x = (k : Int) + 1 ∧ k < g.length ∧ g[k]? = some o ∧ refsAt g (x - 1).toNat = refsL o.slots) := fun x hx => by
    obtain ⟨k, o, e, ho, _⟩ := looks_iff.1 (hr x hx)
    refine ⟨k, o, e, (List.getElem?_eq_some_iff.1 ho).1, ho, ?_⟩
    unfold refsAt
    rw [show (x - 1).toNat = k by omega, ho]
  clear hg h hr hs
  generalize withN g L n = wN at *
  generalize refsAt g = rA at *
  generalize g.length = N at *
  obtain ⟨nl, hnl⟩ : ∃ nl, nl = L.length := ⟨_, rfl⟩
  rw [← hnl]
  have hl9 : nl ≤ 900 := by omega
  go_enter Try.func46, Try.ntmps46
  go_upto_region 1 with fail
  refine at_world (fun V => Below w.heap.size w V ∧ V.cell? ⟨w.heap.size, 0, none⟩ = some (.slice A N c) ∧ w.heap.size < V.heap.size) ⟨(Below.refl _ _).alloc (Nat.le_refl _) _, by simp [go_sem], by simp⟩ (fun V HV => ?_)
  obtain ⟨hb, c0, zV⟩ := HV
  have BV := Lib.hid hb
  have CX : Hid (∀ W, Below V.heap.size V W → W.cell? ⟨w.heap.size, 0, none⟩ = some (.slice A N c)) := fun W hW => (hW.cell (p := ⟨w.heap.size, 0, none⟩) zV).trans c0
  clear hb
  go_wp2_with fail
  go_loopg [7, 8] nl (fun gg s7 s8 wr => ∃ k : Nat, k ≤ nl ∧ nl - k ≤ gg ∧ s8 = .int .i64 k ∧ s7 = .int .i64 (wN k : Nat) ∧ Hid (Below V.heap.size V wr))
  case atStart => exact ⟨0, Nat.zero_le _, by omega, rfl, by rw [W0.out]; rfl, Below.refl _ _⟩
  case round =>
    obtain ⟨k, hk, hgg, rfl, rfl, BR⟩ := hrel
    have BW : Hid (Below w.heap.size w wr) := BV.out.trans (BR.out.mono BV.out.size)
    by_cases hlt : k < nl
    · obtain ⟨x, hx⟩ : ∃ x, L[k]? = some x := ⟨_, List.getElem?_eq_getElem (by omega)⟩
      obtain ⟨j, o, e, hj, ho, hrf⟩ := LX.out x (List.mem_of_getElem? hx)
      have WSx := WS.out k x hx
      rw [hrf] at WSx
      subst e
      obtain ⟨ad, e, hal, hcx⟩ := (HB.out.below BW.out) k _ hx
      subst e
      obtain ⟨a, sA, sc, e, hal2, ⟨o0, o1, o2, o3, o4⟩, hs⟩ := G.out j o ho
      subst e
      have hl2 : (ad.add k).block < wr.heap.size := by rw [Go.ChangeShapes.block_add]; exact hal
      have z2 : wr.cell? ⟨(a.add (j * 5)).block, (a.add (j * 5)).off + 2, none⟩ = some (.slice sA o.slots.length sc) := (BW.out.cell (p := ⟨(a.add (j * 5)).block, (a.add (j * 5)).off + 2, none⟩) (show (a.add (j * 5)).block < _ by rw [Go.ChangeShapes.block_add]; exact hal2)).trans o2
      have hl3 : (a.add (j * 5)).block < wr.heap.size := by rw [Go.ChangeShapes.block_add]; have := BW.out.size; omega
      have e1 : IntKind.i64.wrap ((j : Int) + 1 - 1) = (j : Int) := (IntWalk.i64_in _ (by omega)).trans (by omega)
      have e5 : IntKind.i64.wrap (j : Int) = (j : Int) := IntWalk.i64_in _ (by omega)
      have e4 : (j : Int) < (N : Int) := by omega
      have hb1 := WB.out (k + 1)
      have hsum : IntKind.i64.wrap (((wN k : Nat) : Int) + (((refsL o.slots).count n : Nat) : Int)) = ((wN (k + 1) : Nat) : Int) := by
        rw [WSx] at hb1
        have : (k + 1) * 1048576 ≤ 900 * 1048576 := by omega
        rw [WSx, IntWalk.i64_in _ (by omega)]
        omega
      have x0 := CX.out wr BR.out
      have r0 := fun d os => cell_regrown x0 d os
      have r1 := fun d os => cell_regrown hcx d os
      have r2 := fun d os => cell_regrown z2 d os
      have ct := fun d os => Calls.regrown_of (TI.out (Go.Sort.grow (redrawn wr d) os) j o sA sc (BW.out.trans ((below_regrown wr d os).mono BW.out.size)) ho hs)
      clear o0 o1 o2 o3 o4 hs hx ho hrf WSx hb1
      generalize (refsL o.slots).count n = cn at *
      generalize o.slots.length = ns at *
      go_wp2_with fail
      refine wp_region_quiet_below (by kernel_rfl) (by kernel_rfl) ?_
      repeat (go_big_quiet_step (with_reducible exact ct _ _))
      refine wpQuiet_nil ?_
      intro w3 ⟨⟨dq, osq⟩, hw3⟩
      have B3 : Hid (Below wr.heap.size wr w3) := by rw [hw3]; exact below_regrown wr dq osq
      clear hw3 r0 r1 r2 ct
      go_wp2_with fail
      go_roundg (nl - (k + 1))
      case measure => omega
      case rel => exact ⟨k + 1, by omega, by omega, by go_num, by first | rfl | rw [hsum] | (rw [← hsum]), BR.out.trans (B3.out.mono BR.out.size)⟩
    · have hkn : k = nl := by omega
      obtain rfl := hkn.symm
      go_wp2_with fail
      go_ret
      exact ⟨rfl, BV.out.trans (BR.out.mono BV.out.size)⟩
/-- A box that is not the row of v. -/
def BoxAp (w : World) (b : Nat) (x v : Value) : Prop := w.cell? ⟨b, 0, none⟩ = some x ∧ v.ownBlock ≠ some b
theorem BoxAp.below {w w' : World} {b : Nat} {x v : Value} (h : BoxAp w b x v) (hb : Below w.heap.size w w') : BoxAp w' b x v := ⟨(hb.cell (p := ⟨b, 0, none⟩) (World.block_lt_of_cell? w _ h.1)).trans h.1, h.2⟩
theorem BoxAp.grown {w3 w8 : World} {b : Nat} {x v v' : Value} {o : Obj} (h : BoxAp w3 b x v) (hg : (w3.alloc o).grownBy w8 v.ownBlock) (hat : v'.ownBlock = v.ownBlock ∨ v'.ownBlock = some (w3.alloc o).heap.size) : BoxAp w8 b x v' := by
  have hl : b < w3.heap.size := World.block_lt_of_cell? w3 _ h.1
  refine ⟨?_, ?_⟩
  · have h1 := hg.block b (by simp; omega) (fun e2 => h.2 (by first | exact e2 | exact e2.symm))
    rw [Below.heap_alloc _ _ _ hl] at h1
    have h2 := h.1
    simp only [World.cell?, h1] at h2 ⊢
    exact h2
  · rcases hat with h3 | h3
    · rw [h3]; exact h.2
    · rw [h3]; intro e2; injection e2 with e2; simp at e2; omega
set_option maxHeartbeats 8000000 in
theorem RFrom_any {w0 w : World} {A : Option Addr} {c : Nat} {g : List OB} (hg : GAt w0 A g) (hn : g.length ≤ 900) {B : Option Addr} {d : Nat} {S : List Int} (hSl : S.length ≤ 900) {p : Int → Bool} (hp : ∀ x, p x = decide (x ∈ S)) {v : Value} {met : List Int} {lo : Nat} (hlo : w0.heap.size ≤ lo) (hb : Below w0.heap.size w0 w) (hlw : lo ≤ w.heap.size)
    (hB : ApartI w B S v) (O : w.ownsRow lo 3 1 v met.length (met.map (Value.int .i64))) (hnd : met.Nodup) (hm : ∀ x ∈ met, p x = true) (hr : ∀ x ∈ S, looksB g x = true) (hmr : ∀ (i : Nat) (o : OB) (m : List Int), g[i]? = some o → meetL p m (refsL o.slots) = meetL p m (heldG g ((i : Int) + 1))) :
    Calls Try.prog 48 #[gV A g.length c, .slice B S.length d, v] w fun e w' => ∃ v', e = .returned v' ∧ w'.ownsRow lo 3 1 v' (followF g p (g.length + 1) 0 met).length ((followF g p (g.length + 1) 0 met).map (Value.int .i64)) ∧ Below lo w w' ∧ ApartI w' B S v' := by
  obtain ⟨i0, hi, hz0, hz1, hz2⟩ := info_parts int_info
  have G := Lib.hid hg
  obtain ⟨mA0, mc0, ev, _⟩ := ints_of_own O
  subst ev
  have HS : Hid (∀ W (C : Option Addr) (k : Nat) (x : Int), IntsAt W C S → Calls Try.prog 38 #[.slice C S.length k, iV x] W fun e w' => e = .returned (.bool (p x)) ∧ w' = W) := fun W C k x hi => (RHas_any (by omega) hi x).mono fun e w' ⟨h1, h2⟩ => ⟨by rw [h1, hp], h2⟩
  have HA : Hid (∀ W (C : Option Addr) (k : Nat) (S : List Int) (x : Int), S.length ≤ 900 → IntsAt W C S → Calls Try.prog 38 #[.slice C S.length k, iV x] W fun e w' => e = .returned (.bool (decide (x ∈ S))) ∧ w' = W) := fun W C k S x hS hi => RHas_any (by omega) hi x
  have RF : Hid (∀ (W : World) (i : Nat) (o : OB) (sA : Option Addr) (sc : Nat), Below w0.heap.size w0 W → g[i]? = some o → SlotsAt w0 o sA → Calls Try.prog 39 #[.slice sA o.slots.length sc] W (GivesInts (refsL o.slots) W)) := fun W i o sA sc hW ho hs => RRefs_any sA sc o.slots W (by have := hs.2; omega) (pairs_below hs.1 hW)
  have ME := Lib.hid hmr
  have SR : Hid (∀ (i : Nat) (o : OB), g[i]? = some o → (refsL o.slots).length ≤ 8796093022208 ∧ ∀ x ∈ refsL o.slots, wf64 x) := fun i o ho => by
    obtain ⟨_, sA, sc, _, _, _, hs⟩ := G.out i o ho
    refine ⟨by have := refsL_len o.slots; have := hs.2; omega, fun x hx => ?_⟩
    have := refs_range hx
    unfold wf64; omega
  have hpl : ∀ x, p x = true → looksB g x = true := fun x hx => hr x (by rw [hp, decide_eq_true_iff] at hx; exact hx)
  have MZ : Hid (∀ (met l : List Int), metW p met l 0 = met) := fun met l => rfl
  have MF : Hid (∀ (met l : List Int), metW p met l l.length = meetL p met l) := fun met l => metW_full p met l
  have MY : Hid (∀ (met l : List Int) (k : Nat) (x : Int), l[k]? = some x → p x = true → x ∉ metW p met l k → metW p met l (k + 1) = metW p met l k ++ [x]) := fun met l k x => metW_yes
  have MN : Hid (∀ (met l : List Int) (k : Nat) (x : Int), l[k]? = some x → p x = false ∨ x ∈ metW p met l k → metW p met l (k + 1) = metW p met l k) := fun met l k x => metW_no
  have ML : Hid (∀ (met l : List Int) (k : Nat), met.Nodup → (∀ x ∈ met, p x = true) → (metW p met l k).Nodup ∧ (∀ x ∈ metW p met l k, p x = true) ∧ (metW p met l k).length ≤ g.length) := fun met l k h1 h2 => by
    have a1 : (metW p met l k).Nodup := meet_nodup h1
    have a2 : ∀ x ∈ metW p met l k, p x = true := fun x hx => by
      rcases meet_mem.1 hx with h | ⟨_, h⟩
      · exact h2 x h
      · exact h
    exact ⟨a1, a2, nums_short a1 fun x hx => looks_range (hpl x (a2 x hx))⟩
  have FS : Hid (∀ (f i : Nat) (met : List Int) (n : Int), met[i]? = some n → followF g p (f + 1) i met = followF g p f (i + 1) (meetL p met (heldG g n))) := fun f i met n h => followF_step h
  have FE : Hid (∀ (f i : Nat) (met : List Int), met.length ≤ i → followF g p f i met = met) := fun f i met h => followF_end h
  have LX : Hid (∀ x, p x = true → ∃ (k : Nat) (o : OB), x = (k : Int) + 1 ∧ k < g.length ∧ g[k]? = some o) := fun x hx => by
    obtain ⟨k, o, e, ho, _⟩ := looks_iff.1 (hpl x hx)
    exact ⟨k, o, e, (List.getElem?_eq_some_iff.1 ho).1, ho⟩
  have FE0 : Hid (∃ Sg, Sg = followF g p (g.length + 1) 0 met) := ⟨_, rfl⟩
  obtain ⟨Sg, hSg⟩ := FE0.out
  rw [← hSg]
  have INV : Hid (w.ownsRow lo 3 1 (.slice mA0 met.length mc0) met.length (met.map (Value.int .i64)) ∧ met.Nodup ∧ (∀ x ∈ met, p x = true) ∧ followF g p (g.length + 1) 0 met = Sg) := ⟨O, hnd, hm, hSg.symm⟩
  have HBs := Lib.hid hB
  have HB0 := Lib.hid hb
  have hOwn := O.lt
  clear hg hB hb hnd hm hr hmr hpl hp O hSg FE0
  generalize followF g p = fF at *
  generalize metW p = mF at *
  generalize hlkp : p = lk at *
  clear hlkp
  generalize g.length = n at *
  generalize hns : S.length = nS at *
  go_enter Try.func48, Try.ntmps48
  go_upto_region 1 with fail
  refine at_world (fun V => Below w.heap.size w V ∧ BoxAp V w.heap.size (.slice A n c) (.slice mA0 met.length mc0)) ⟨(Below.refl _ _).alloc (Nat.le_refl _) _, by simp [go_sem], fun e => by have := (hOwn _ e).2; omega⟩ (fun V HV => ?_)
  obtain ⟨hbV, hbx⟩ := HV
  have BwV := Lib.hid hbV
  have X0 := Lib.hid hbx
  have hlV : lo ≤ V.heap.size := Nat.le_trans hlw hbV.size
  have B0V : Hid (Below w0.heap.size w0 V) := HB0.out.trans (hbV.mono HB0.out.size)
  have S0 : Hid (ApartI V B S (.slice mA0 met.length mc0)) := HBs.out.below hbV
  have O0 : Hid (V.ownsRow lo 3 1 (.slice mA0 met.length mc0) met.length (met.map (Value.int .i64))) := own_below INV.out.1 hbV
  have I0 := Lib.hid INV.out.2
  obtain ⟨bx, hbx2⟩ : ∃ bx, bx = w.heap.size := ⟨_, rfl⟩
  have HBX := Lib.hid hbx2
  rw [← hbx2] at X0 ⊢
  clear hbV hbx INV hOwn HBs hbx2
  go_wp2_with fail
  go_loopg [2, 7, 8, 9] (n + 1) (fun gg s5 s7 _ _ wq => ∃ i : Nat, i ≤ n ∧ n + 1 - i ≤ gg ∧ s7 = .int .i64 i ∧ Hid (∃ met, wq.ownsRow lo 3 1 s5 met.length (met.map (Value.int .i64)) ∧ met.Nodup ∧ (∀ x ∈ met, lk x = true) ∧ i ≤ met.length ∧ fF (n + 1 - i) i met = Sg) ∧ Hid (Below lo V wq) ∧ Hid (ApartI wq B S s5) ∧ Hid (BoxAp wq bx (.slice A n c) s5))
  case atStart => exact ⟨0, Nat.zero_le _, by omega, rfl, ⟨met, O0.out, I0.out.1, I0.out.2.1, Nat.zero_le _, I0.out.2.2⟩, Below.refl _ _, S0.out, X0.out⟩
  case round =>
    clear O0 I0 S0 X0
    obtain ⟨i, hin, hgg, rfl, MM, BQ, SA, XA⟩ := hrel
    obtain ⟨G1, rfl⟩ : ∃ G, G = gk := ⟨_, rfl⟩
    obtain ⟨met, om, hnd, hlk, hil, hfl⟩ := MM.out
    have hlen : met.length ≤ n := by have := ML.out met [] 0 hnd hlk; rw [MZ.out] at this; exact this.2.2
    obtain ⟨mA, mc, e9, im⟩ := ints_of_own om
    subst e9
    have OM := Lib.hid om
    have ND := Lib.hid hnd
    have LK := Lib.hid hlk
    have FL := Lib.hid hfl
    have x0 := XA.out.1
    have BW : Hid (Below w0.heap.size w0 wr) := B0V.out.trans (BQ.out.mono (Nat.le_trans hlo (Nat.le_refl _)))
    clear om hnd hlk hfl MM
    by_cases hlt : i < met.length
    · obtain ⟨x, hx⟩ : ∃ x, met[i]? = some x := ⟨_, List.getElem?_eq_getElem hlt⟩
      obtain ⟨j, o, e, hj, ho⟩ := LX.out x (LK.out x (List.mem_of_getElem? hx))
      subst e
      obtain ⟨ad, e, hal, hcx⟩ := im i _ hx
      subst e
      obtain ⟨a, sA, sc, e, hal2, ⟨o0, o1, o2, o3, o4⟩, hs⟩ := G.out j o ho
      subst e
      have hl2 : (ad.add i).block < wr.heap.size := by rw [Go.ChangeShapes.block_add]; exact hal
      have z2 : wr.cell? ⟨(a.add (j * 5)).block, (a.add (j * 5)).off + 2, none⟩ = some (.slice sA o.slots.length sc) := (BW.out.cell (p := ⟨(a.add (j * 5)).block, (a.add (j * 5)).off + 2, none⟩) (show (a.add (j * 5)).block < _ by rw [Go.ChangeShapes.block_add]; exact hal2)).trans o2
      have hl3 : (a.add (j * 5)).block < wr.heap.size := by rw [Go.ChangeShapes.block_add]; have := BW.out.size; omega
      have e1 : IntKind.i64.wrap ((j : Int) + 1 - 1) = (j : Int) := (IntWalk.i64_in _ (by omega)).trans (by omega)
      have e5 : IntKind.i64.wrap (j : Int) = (j : Int) := IntWalk.i64_in _ (by omega)
      have e4 : (j : Int) < (n : Int) := by omega
      have e6 : (i : Int) < (met.length : Int) := by omega
      have CALL := Lib.hid (RF.out wr.drew j o sA sc BW.out.drew ho hs)
      have MEx := Lib.hid (ME.out j o met ho)
      have FSx := Lib.hid (FS.out (n - i) i met _ hx)
      obtain ⟨sr1, sr2⟩ := SR.out j o ho
      have SRW := Lib.hid sr2
      clear o0 o1 o2 o3 o4 hs hx im ho sr2
      generalize refsL o.slots = R at *
      generalize o.slots.length = ns at *
      go_wp2_with fail
      go_region_law (go_simp; go_at_call 39; (with_reducible refine CALL.out.mono ?_); rintro e w5 ⟨v8, rfl, ho8, hb8⟩)
      all_goals
        obtain ⟨A8, c8, e8, i8, l8⟩ := ints_of_own2 ho8
        subst e8
        have HB5 : Below wr.heap.size wr w5 := ⟨hb8.os, hb8.tape, hb8.output, hb8.size, hb8.block⟩
        have hlr : lo ≤ wr.heap.size := by have := BQ.out.size; omega
        have B5 : Hid (Below lo V w5) := BQ.out.trans (HB5.mono hlr)
        have O5 : Hid (w5.ownsRow lo 3 1 (.slice (some ad) met.length mc) met.length (met.map (Value.int .i64))) := own_below OM.out HB5
        have S5 : Hid (ApartI w5 B S (.slice (some ad) met.length mc)) := SA.out.below HB5
        have X5 : Hid (BoxAp w5 bx (.slice (some a) n c) (.slice (some ad) met.length mc)) := XA.out.below HB5
        have I5 : Hid (ApartI w5 A8 R (.slice (some ad) met.length mc)) := ApartI.of i8 (fun a ha e => by
          have h1 := l8 a ha
          have h2 := (OM.out.lt _ e).2
          simp at h1
          omega)
        have MZm := Lib.hid (MZ.out met R)
        have MFm := Lib.hid (MF.out met R)
        clear hb8 ho8 i8 l8 HB5 CALL z2 hcx hl2 hl3 hal hal2 BQ x0 BW OM e1 e5 e4 e6 SA XA hlr
        obtain ⟨nr, hnr⟩ : ∃ nr, nr = R.length := ⟨_, rfl⟩
        have HNR := Lib.hid hnr
        have hnr9 : nr ≤ 8796093022208 := by omega
        rw [← hnr]
        clear hnr
        go_wp2_with fail
        go_loopg [2, 9] nr (fun gg s5 s9 wq => ∃ k : Nat, k ≤ nr ∧ nr - k ≤ gg ∧ s9 = .int .i64 k ∧ Hid (wq.ownsRow lo 3 1 s5 (mF met R k).length ((mF met R k).map (Value.int .i64))) ∧ Hid (Below lo V wq) ∧ Hid (ApartI wq A8 R s5) ∧ Hid (ApartI wq B S s5) ∧ Hid (BoxAp wq bx (.slice (some a) n c) s5))
        case atStart => exact ⟨0, Nat.zero_le _, by omega, rfl, (show World.ownsRow _ _ _ _ _ _ _ by rw [MZm.out]; exact O5.out), B5.out, I5.out, S5.out, X5.out⟩
        case round =>
          clear B5 O5 I5 MZm S5 X5
          obtain ⟨k, hk, hgg2, rfl, O, BR, IA, SA, XA⟩ := hrel
          have hlr : lo ≤ wr.heap.size := by have := BR.out.size; omega
          obtain ⟨NDk, LKk, LEN⟩ := ML.out met R k ND.out LK.out
          by_cases hlt2 : k < nr
          · obtain ⟨x, hx⟩ : ∃ x, R[k]? = some x := ⟨_, List.getElem?_eq_getElem (by have := HNR.out; omega)⟩
            obtain ⟨A5, c5, e5, i5⟩ := ints_of_own O.out
            subst e5
            obtain ⟨ad, e, hal, _, hcx⟩ := IA.out k x hx
            subst e
            have hl2 : (ad.add k).block < wr.heap.size := by rw [Go.ChangeShapes.block_add]; exact hal
            have hwx := SRW.out x (List.mem_of_getElem? hx)
            have x0 := XA.out.1
            have ct := HS.out wr B d x SA.out.ints
            have ch := HA.out wr A5 c5 (mF met R k) x (by omega) i5
            have MYx := MY.out met R k x hx
            have MNx := MN.out met R k x hx
            clear hx i5 NDk LKk
            cases hq : lk x with
            | false =>
              rw [hq] at ct
              have E1 := Lib.hid (MNx (.inl hq))
              clear ch MYx MNx hq
              have CT := Lib.hid ct
              clear ct
              go_wp2_with (go_at_call 38; (with_reducible refine CT.out.mono ?_); rintro e _ ⟨rfl, hww⟩; obtain rfl := hww.symm; clear hww)
              have B3 : Hid (Below wr.heap.size wr wr) := Below.refl _ _
              go_roundg (nr - (k + 1))
              case measure => omega
              case rel => exact ⟨k + 1, by omega, by omega, by go_num, (show World.ownsRow _ _ _ _ _ _ _ by rw [E1.out]; exact own_below O.out B3.out), BR.out.trans (B3.out.mono hlr), IA.out.below B3.out, SA.out.below B3.out, XA.out.below B3.out⟩
            | true =>
              rw [hq] at ct
              by_cases hm : x ∈ mF met R k
              · rw [decide_eq_true hm] at ch
                have E1 := Lib.hid (MNx (.inr hm))
                clear MYx MNx hq hm
                have CT := Lib.hid ct
                have CH := Lib.hid ch
                clear ct ch
                go_wp2_with (first | (go_at_call 38; (with_reducible refine CT.out.mono ?_); rintro e _ ⟨rfl, hww⟩; obtain rfl := hww.symm; clear hww) | (go_at_call 38; (with_reducible refine CH.out.mono ?_); rintro e _ ⟨rfl, hww⟩; obtain rfl := hww.symm; clear hww))
                have B3 : Hid (Below wr.heap.size wr wr) := Below.refl _ _
                go_roundg (nr - (k + 1))
                case measure => omega
                case rel => exact ⟨k + 1, by omega, by omega, by go_num, (show World.ownsRow _ _ _ _ _ _ _ by rw [E1.out]; exact own_below O.out B3.out), BR.out.trans (B3.out.mono hlr), IA.out.below B3.out, SA.out.below B3.out, XA.out.below B3.out⟩
              · rw [decide_eq_false hm] at ch
                have E1 := Lib.hid (MYx hq hm)
                clear MYx MNx hq hm
                have CT := Lib.hid ct
                have CH := Lib.hid ch
                clear ct ch
                go_upto_region 9 with (first | (go_at_call 38; (with_reducible refine CT.out.mono ?_); rintro e _ ⟨rfl, hww⟩; obtain rfl := hww.symm; clear hww) | (go_at_call 38; (with_reducible refine CH.out.mono ?_); rintro e _ ⟨rfl, hww⟩; obtain rfl := hww.symm; clear hww))
                have B3 : Hid (Below wr.heap.size wr wr) := Below.refl _ _
                have q1 := (B3.out.cell (p := ad.add k) hl2).trans hcx
                have O3 := Lib.hid (own_below O.out B3.out)
                have BR3 : Hid (Below lo V wr) := BR.out.trans (B3.out.mono hlr)
                have hb3 : lo ≤ wr.heap.size := Nat.le_trans hlr B3.out.size
                go_wp2_with (at_builtin; refine wpList_append_own_at _ rfl (.tmp 48) (.tmp 53) _ rfl lo 3 i0 _ 1 8 Try.underlying25 hi hz0 hz1 hz2 rfl (by decide) _ _ _ rfl (O3.out.alloc _) ⟨wr.heap.size, 0, none⟩ 1 1 [.int .i64 x] rfl rfl one_cell (by simp [Value.oneCell']) (by unfold maxLen; omega) (by omega) (by simp; omega) ?_; intro v' w8 hown8 hg8 _ at8)
                have O8 : Hid (w8.ownsRow lo 3 1 v' (mF met R (k + 1)).length ((mF met R (k + 1)).map (Value.int .i64))) := (show World.ownsRow _ _ _ _ _ _ _ by rw [E1.out, List.length_append, List.map_append]; exact hown8)
                have B8 : Hid (Below lo V w8) := (BR3.out.alloc hb3 _).grown hg8 (by simp; omega) (fun b hb => (O3.out.lt b hb).1)
                have A8g := Lib.hid ((IA.out.below B3.out).grown hg8 at8)
                have S8g := Lib.hid ((SA.out.below B3.out).grown hg8 at8)
                have X8g := Lib.hid ((XA.out.below B3.out).grown hg8 at8)
                clear hown8 hg8 at8
                go_roundg (nr - (k + 1))
                case measure => omega
                case rel => exact ⟨k + 1, by omega, by omega, by go_num, O8.out, B8.out, A8g.out, S8g.out, X8g.out⟩
          · have hkn : k = nr := by omega
            have E0 : Hid (mF met R k = meetL lk met (heldG g ((j : Int) + 1))) := (show _ = _ by rw [hkn, HNR.out, MFm.out]; exact MEx.out)
            have hpp : met.length ≤ (mF met R k).length := by
              rw [E0.out]
              exact (meet_prefix (whom := lk) (met := met) (l := heldG g ((j : Int) + 1))).length_le
            have FL2 : Hid (fF (n + 1 - (i + 1)) (i + 1) (mF met R k) = Sg) := (show _ = _ by rw [E0.out, ← FL.out, show n + 1 - i = n - i + 1 by omega, FSx.out, show n + 1 - (i + 1) = n - i by omega])
            clear hkn E0 FL FSx MEx MFm
            go_wp2_with fail
            go_roundg (n + 1 - (i + 1))
            case measure => omega
            case rel => exact ⟨i + 1, by omega, by omega, by go_num, ⟨_, O.out, NDk, LKk, by omega, FL2.out⟩, BR.out, SA.out, XA.out⟩
    · have him : i = met.length := by omega
      have E2 := Lib.hid ((FE.out (n + 1 - i) i met (by omega)).symm.trans FL.out)
      have O9 := Lib.hid OM.out
      clear him FL
      go_wp2_with fail
      go_ret
      refine ⟨_, rfl, ?_, (BwV.out.mono hlw).trans BQ.out, SA.out⟩
      rw [← E2.out]
      exact O9.out
end Go.Proofs.Ytjlobjgemhapaaa
