/- tallowref12.Seen: as the program's, number by number. -/
import Derived.Test.YtjlobjgemhapaaaTrRefA
import Derived.Test.YtjlobjgemhapaaaTrA
import Derived.Test.YtjlobjgemhapaaaOldS
import Derived.Test.YtjlobjgemhapaaaOldS
import Derived.Lib.QuietBelow
namespace Go.Proofs.Ytjlobjgemhapaaa
set_option maxRecDepth 20000
open Go.RowKit Go.Maps

/-- One more that is looked at: it is met, or not. -/
def metF (g : List OB) (met l : List Int) (k : Nat) : List Int := meetL (looksB g) met (l.take k)
theorem metF_zero (g : List OB) (met l : List Int) : metF g met l 0 = met := rfl
theorem metF_full (g : List OB) (met l : List Int) : metF g met l l.length = meetL (looksB g) met l := by unfold metF; rw [List.take_of_length_le (Nat.le_refl _)]
theorem metF_yes {g : List OB} {met l : List Int} {k : Nat} {x : Int} (h : l[k]? = some x) (h1 : looksB g x = true) (h2 : x ∉ metF g met l k) : metF g met l (k + 1) = metF g met l k ++ [x] := by
  unfold metF at *; rw [meet_take h, if_neg]
  rintro (h | h)
  · exact h2 h
  · rw [h1] at h; cases h
theorem metF_no {g : List OB} {met l : List Int} {k : Nat} {x : Int} (h : l[k]? = some x) (h1 : looksB g x = false ∨ x ∈ metF g met l k) : metF g met l (k + 1) = metF g met l k := by
  unfold metF at *; rw [meet_take h, if_pos]
  rcases h1 with h | h
  · exact .inr h
  · exact .inl h
theorem metF_nodup {g : List OB} {met : List Int} (h : met.Nodup) (l : List Int) (k : Nat) : (metF g met l k).Nodup := meet_nodup h
theorem metF_looks {g : List OB} {met : List Int} (h : ∀ x ∈ met, looksB g x = true) (l : List Int) (k : Nat) : ∀ x ∈ metF g met l k, looksB g x = true := fun x hx => by
  rcases meet_mem.1 hx with h1 | ⟨_, h1⟩
  · exact h x h1
  · exact h1
theorem metF_len {g : List OB} {met : List Int} (hd : met.Nodup) (h : ∀ x ∈ met, looksB g x = true) (l : List Int) (k : Nat) : (metF g met l k).length ≤ g.length :=
  nums_short (metF_nodup hd l k) fun x hx => looks_range (metF_looks h l k x hx)
/-- Numbers in a row that is not the one of v. -/
def ApartI (w : World) (A : Option Addr) (R : List Int) (v : Value) : Prop := ∀ (i : Nat) x, R[i]? = some x → ∃ ad, A = some ad ∧ ad.block < w.heap.size ∧ v.ownBlock ≠ some ad.block ∧ w.cell? (ad.add i) = some (.int .i64 x)
theorem ApartI.below {w w' : World} {A : Option Addr} {R : List Int} {v : Value} (h : ApartI w A R v) (hb : Below w.heap.size w w') : ApartI w' A R v := fun i x hx => by
  obtain ⟨ad, e, hl, hn, hc⟩ := h i x hx
  exact ⟨ad, e, Nat.lt_of_lt_of_le hl hb.size, hn, (hb.cell (p := ad.add i) (by rw [Go.ChangeShapes.block_add]; exact hl)).trans hc⟩
theorem ApartI.ints {w : World} {A : Option Addr} {R : List Int} {v : Value} (h : ApartI w A R v) : IntsAt w A R := fun i x hx => by
  obtain ⟨ad, e, hl, _, hc⟩ := h i x hx
  exact ⟨ad, e, hl, hc⟩
theorem ApartI.of {w : World} {A : Option Addr} {R : List Int} {v : Value} (h : IntsAt w A R) (hn : ∀ a, A = some a → v.ownBlock ≠ some a.block) : ApartI w A R v := fun i x hx => by
  obtain ⟨ad, e, hl, hc⟩ := h i x hx
  exact ⟨ad, e, hl, hn ad e, hc⟩
theorem ApartI.grown {w3 w8 : World} {A : Option Addr} {R : List Int} {v v' : Value} {o : Obj} (h : ApartI w3 A R v) (hg : (w3.alloc o).grownBy w8 v.ownBlock) (hat : v'.ownBlock = v.ownBlock ∨ v'.ownBlock = some (w3.alloc o).heap.size) : ApartI w8 A R v' := fun i x hx => by
  have hsz : w3.heap.size ≤ w8.heap.size := by have := hg.size; simp at this; omega
  obtain ⟨ad, e, hl, hn, hc⟩ := h i x hx
  have hb : (ad.add i).block = ad.block := Go.ChangeShapes.block_add _ _
  refine ⟨ad, e, by omega, ?_, ?_⟩
  · rcases hat with h3 | h3
    · rw [h3]; exact hn
    · rw [h3]; intro e2; injection e2 with e2; simp at e2; omega
  · have h1 := hg.block (ad.add i).block (by simp; omega) (fun e2 => hn (by rw [← hb]; first | exact e2 | exact e2.symm))
    rw [Below.heap_alloc _ _ _ (by omega)] at h1
    simp only [World.cell?, h1]
    exact hc
set_option maxHeartbeats 8000000 in
theorem RSeen_any {w : World} {A : Option Addr} {c : Nat} {g : List OB} (hg : GAt w A g) (hn : g.length ≤ 900) {B : Option Addr} {d : Nat} {l : List Int} (hl : l.length ≤ 1099511627776) (h : IntsAt w B l) (hwf : ∀ x ∈ l, wf64 x) :
    Calls Try.prog 13 #[gV A g.length c, .slice B l.length d] w (GivesInts (seenL g l) w) := by
  obtain ⟨i0, hi, hz0, hz1, hz2⟩ := info_parts int_info
  have G := Lib.hid hg
  have HB := Lib.hid h
  have WF := Lib.hid hwf
  have CK : Hid (∀ W, Below w.heap.size w W → Calls Try.prog 36 #[gV A g.length c] W fun e w' => e = .returned (.bool (checkB g)) ∧ Below W.heap.size W w') := fun W hW => RCheck_any (G.out.below hW) (by omega)
  cases hck : checkB g with
  | false =>
    have E0 : seenL g l = [] := by unfold seenL; rw [if_neg (by rw [hck]; decide)]
    rw [E0]
    rw [hck] at CK
    clear hg h hwf hck E0 G HB WF
    generalize g.length = n at *
    generalize l.length = nl at *
    go_enter Try.func13, Try.ntmps13
    go_wp2_with (go_at_call 36; (with_reducible refine (CK.out _ (by first | exact (Below.refl _ _).alloc (Nat.le_refl _) _ | exact Below.refl _ _)).mono ?_); rintro e w1 ⟨rfl, hb⟩; have B1 := Lib.hid (below_box hb); clear hb)
    go_ret
    exact ⟨_, rfl, World.ownsRow_nil _ _ _ _, B1.out⟩
  | true =>
    rw [hck] at CK
    have TH : Hid (∀ W (x : Int), Below w.heap.size w W → wf64 x → Calls Try.prog 37 #[gV A g.length c, iV x] W fun e w' => e = .returned (.bool (looksB g x)) ∧ Below W.heap.size W w') := fun W x hW hx => RThere12_any (G.out.below hW) x hx.1 hx.2
    have HA : Hid (∀ W (C : Option Addr) (k : Nat) (S : List Int) (x : Int), S.length ≤ 900 → IntsAt W C S → Calls Try.prog 38 #[.slice C S.length k, iV x] W fun e w' => e = .returned (.bool (decide (x ∈ S))) ∧ Below W.heap.size W w') := fun W C k S x hS hi => (RHas_any (by omega) hi x).mono fun e w' ⟨h1, h2⟩ => ⟨h1, by rw [h2]; exact Below.refl _ _⟩
    have RF : Hid (∀ (W : World) (i : Nat) (o : OB) (sA : Option Addr) (sc : Nat), Below w.heap.size w W → g[i]? = some o → SlotsAt w o sA → Calls Try.prog 39 #[.slice sA o.slots.length sc] W (GivesInts (refsL o.slots) W)) := fun W i o sA sc hW ho hs => RRefs_any sA sc o.slots W (by have := hs.2; omega) (pairs_below hs.1 hW)
    have ME : Hid (∀ (i : Nat) (o : OB) (met : List Int), g[i]? = some o → meetL (looksB g) met (refsL o.slots) = meetL (looksB g) met (heldG g ((i : Int) + 1))) := fun i o met ho => meet_refs hck ho met
    have SR : Hid (∀ (i : Nat) o, g[i]? = some o → (refsL o.slots).length ≤ 8796093022208 ∧ ∀ x ∈ refsL o.slots, wf64 x) := fun i o ho => by
      obtain ⟨_, sA, sc, _, _, _, hs⟩ := G.out i o ho
      refine ⟨by have := refsL_len o.slots; have := hs.2; omega, fun x hx => ?_⟩
      have := refs_range hx
      unfold wf64; omega
    have MZ : Hid (∀ (met l : List Int), metF g met l 0 = met) := fun met l => rfl
    have MF : Hid (∀ (met l : List Int), metF g met l l.length = meetL (looksB g) met l) := fun met l => metF_full g met l
    have MY : Hid (∀ (met l : List Int) (k : Nat) (x : Int), l[k]? = some x → looksB g x = true → x ∉ metF g met l k → metF g met l (k + 1) = metF g met l k ++ [x]) := fun met l k x => metF_yes
    have MN : Hid (∀ (met l : List Int) (k : Nat) (x : Int), l[k]? = some x → looksB g x = false ∨ x ∈ metF g met l k → metF g met l (k + 1) = metF g met l k) := fun met l k x => metF_no
    have ML : Hid (∀ (met l : List Int) (k : Nat), met.Nodup → (∀ x ∈ met, looksB g x = true) → (metF g met l k).Nodup ∧ (∀ x ∈ metF g met l k, looksB g x = true) ∧ (metF g met l k).length ≤ g.length) := fun met l k h1 h2 => ⟨metF_nodup h1 l k, metF_looks h2 l k, metF_len h1 h2 l k⟩
    have FS : Hid (∀ (f i : Nat) (met : List Int) (n : Int), met[i]? = some n → followF g (looksB g) (f + 1) i met = followF g (looksB g) f (i + 1) (meetL (looksB g) met (heldG g n))) := fun f i met n h => followF_step h
    have FE : Hid (∀ (f i : Nat) (met : List Int), met.length ≤ i → followF g (looksB g) f i met = met) := fun f i met h => followF_end h
    have R0 : Hid (followF g (looksB g) (g.length + 1) 0 (meetL (looksB g) [] l) = seenL g l) := (show _ = seenL g l by unfold seenL; rw [if_pos hck]; rfl)
    have LX : Hid (∀ x, looksB g x = true → ∃ (k : Nat) (o : OB), x = (k : Int) + 1 ∧ k < g.length ∧ g[k]? = some o) := fun x hx => by
      obtain ⟨k, o, e, ho, _⟩ := looks_iff.1 hx
      exact ⟨k, o, e, (List.getElem?_eq_some_iff.1 ho).1, ho⟩
    have ND0 : Hid (∀ x ∈ ([] : List Int), looksB g x = true) := fun x hx => by cases hx
    clear hg h hwf
    generalize seenL g l = Sg at *
    generalize followF g (looksB g) = fF at *
    generalize metF g = mF at *
    generalize looksB g = lk at *
    generalize g.length = n at *
    generalize hnl : l.length = nl at *
    go_enter Try.func13, Try.ntmps13
    go_upto_region 3 with (go_at_call 36; (with_reducible refine (CK.out _ (by first | exact (Below.refl _ _).alloc (Nat.le_refl _) _ | exact Below.refl _ _)).mono ?_); rintro e V ⟨rfl, hb⟩; have BV := Lib.hid (below_box hb); have xV := boxed hb (j := 0) rfl; clear hb)
    have zV : w.heap.size < V.heap.size := World.block_lt_of_cell? V _ xV
    have CX : Hid (∀ W, Below V.heap.size V W → W.cell? ⟨w.heap.size, 0, none⟩ = some (.slice A n c)) := fun W hW => (hW.cell (p := ⟨w.heap.size, 0, none⟩) zV).trans xV
    go_wp2_with fail
    go_loopg [5, 6] nl (fun gg s5 s6 wr => ∃ k : Nat, k ≤ nl ∧ nl - k ≤ gg ∧ s6 = .int .i64 k ∧ Hid (wr.ownsRow V.heap.size 3 1 s5 (mF [] l k).length ((mF [] l k).map (Value.int .i64))) ∧ Hid (Below V.heap.size V wr))
    case atStart => exact ⟨0, Nat.zero_le _, by omega, rfl, (show World.ownsRow _ _ _ _ _ _ _ by rw [MZ.out]; exact World.ownsRow_nil _ _ _ _), Below.refl _ _⟩
    case round =>
      obtain ⟨k, hk, hgg, rfl, O, BR⟩ := hrel
      have BW : Hid (Below w.heap.size w wr) := BV.out.trans (BR.out.mono BV.out.size)
      obtain ⟨ND, LKS, LEN⟩ := ML.out [] l k List.nodup_nil ND0.out
      by_cases hlt : k < nl
      · obtain ⟨x, hx⟩ : ∃ x, l[k]? = some x := ⟨_, List.getElem?_eq_getElem (by rw [hnl]; exact hlt)⟩
        obtain ⟨ad, e, hal, hcx⟩ := (HB.out.below BW.out) k x hx
        subst e
        have hl2 : (ad.add k).block < wr.heap.size := by rw [Go.ChangeShapes.block_add]; exact hal
        have hwx := WF.out x (List.mem_of_getElem? hx)
        obtain ⟨A5, c5, rfl, i5⟩ := ints_of_own O.out
        have x0 := CX.out wr BR.out
        have r0 := fun d os => cell_regrown x0 d os
        have r1 := fun d os => cell_regrown hcx d os
        have ct := fun d os => Calls.regrown_of (TH.out (Go.Sort.grow (redrawn wr d) os) x (BW.out.trans ((below_regrown wr d os).mono BW.out.size)) hwx)
        have ch := fun d os => Calls.regrown_of (HA.out (Go.Sort.grow (redrawn wr d) os) A5 c5 (mF [] l k) x (by omega) (i5.below (below_regrown wr d os)))
        have MYx := MY.out [] l k x hx
        have MNx := MN.out [] l k x hx
        clear hx i5 ND LKS
        cases hq : lk x with
        | false =>
          rw [hq] at ct
          have E1 := Lib.hid (MNx (.inl hq))
          clear ch MYx MNx hq
          go_wp2_with fail
          refine wp_region_quiet_below (by kernel_rfl) (by kernel_rfl) ?_
          repeat (go_big_quiet_step (with_reducible exact ct _ _))
          refine wpQuiet_nil ?_
          intro w3 ⟨⟨dq, osq⟩, hw3⟩
          have B3 : Hid (Below wr.heap.size wr w3) := by rw [hw3]; exact below_regrown wr dq osq
          clear hw3 r0 r1 ct
          go_wp2_with fail
          go_roundg (nl - (k + 1))
          case measure => omega
          case rel => exact ⟨k + 1, by omega, by omega, by go_num, (show World.ownsRow _ _ _ _ _ _ _ by rw [E1.out]; exact own_below O.out B3.out), BR.out.trans (B3.out.mono BR.out.size)⟩
        | true =>
          rw [hq] at ct
          by_cases hm : x ∈ mF [] l k
          · rw [decide_eq_true hm] at ch
            have E1 := Lib.hid (MNx (.inr hm))
            clear MYx MNx hq hm
            go_wp2_with fail
            refine wp_region_quiet_below (by kernel_rfl) (by kernel_rfl) ?_
            repeat (go_big_quiet_step (first | (with_reducible exact ct _ _) | (with_reducible exact ch _ _)))
            refine wpQuiet_nil ?_
            intro w3 ⟨⟨dq, osq⟩, hw3⟩
            have B3 : Hid (Below wr.heap.size wr w3) := by rw [hw3]; exact below_regrown wr dq osq
            clear hw3 r0 r1 ct ch
            go_wp2_with fail
            go_roundg (nl - (k + 1))
            case measure => omega
            case rel => exact ⟨k + 1, by omega, by omega, by go_num, (show World.ownsRow _ _ _ _ _ _ _ by rw [E1.out]; exact own_below O.out B3.out), BR.out.trans (B3.out.mono BR.out.size)⟩
          · rw [decide_eq_false hm] at ch
            have E1 := Lib.hid (MYx hq hm)
            clear MYx MNx hq hm
            go_wp2_with fail
            refine wp_region_quiet_below (by kernel_rfl) (by kernel_rfl) ?_
            repeat (go_big_quiet_step (first | (with_reducible exact ct _ _) | (with_reducible exact ch _ _)))
            refine wpQuiet_nil ?_
            intro w3 ⟨⟨dq, osq⟩, hw3⟩
            have B3 : Hid (Below wr.heap.size wr w3) := by rw [hw3]; exact below_regrown wr dq osq
            clear hw3 r0 r1 ct ch
            have q1 := (B3.out.cell (p := ad.add k) hl2).trans hcx
            have O3 := Lib.hid (own_below O.out B3.out)
            have BR3 : Hid (Below V.heap.size V w3) := BR.out.trans (B3.out.mono BR.out.size)
            have hb3 := BR3.out.size
            go_wp2_with (at_builtin; refine wpList_append_own_at _ rfl (.tmp 34) (.tmp 39) _ rfl V.heap.size 3 i0 _ 1 8 Try.underlying25 hi hz0 hz1 hz2 rfl (by decide) _ _ _ rfl (O3.out.alloc _) ⟨w3.heap.size, 0, none⟩ 1 1 [.int .i64 x] rfl rfl one_cell (by simp [Value.oneCell']) (by unfold maxLen; omega) (by omega) (by simp; omega) ?_; intro v' w8 hown8 hg8 _ at8)
            have O8 : Hid (w8.ownsRow V.heap.size 3 1 v' (mF [] l (k + 1)).length ((mF [] l (k + 1)).map (Value.int .i64))) := (show World.ownsRow _ _ _ _ _ _ _ by rw [E1.out, List.length_append, List.map_append]; exact hown8)
            have B8 : Hid (Below V.heap.size V w8) := (BR3.out.alloc BR3.out.size _).grown hg8 (by simp; omega) (fun b hb => (O3.out.lt b hb).1)
            clear hown8 hg8 at8
            go_roundg (nl - (k + 1))
            case measure => omega
            case rel => exact ⟨k + 1, by omega, by omega, by go_num, O8.out, B8.out⟩
      · have hkn : k = nl := by omega
        have E0 : Hid (mF [] l k = meetL lk [] l) := (show _ = _ by rw [hkn, ← hnl]; exact MF.out [] l)
        obtain ⟨A9, c9, e9, -⟩ := ints_of_own O.out
        subst e9
        have INV : Hid (∃ met, wr.ownsRow V.heap.size 3 1 (.slice A9 (mF [] l k).length c9) met.length (met.map (Value.int .i64)) ∧ met.Nodup ∧ (∀ x ∈ met, lk x = true) ∧ fF (n + 1) 0 met = Sg) := ⟨mF [] l k, O.out, ND, LKS, by rw [E0.out]; exact R0.out⟩
        have BRw := BR
        clear O ND LKS LEN E0 R0 hk hgg hkn BR BW
        go_wp2_with fail
        clear hlt
        go_loopg [5, 7, 8, 9] (n + 1) (fun gg s5 s7 _ _ wq => ∃ i : Nat, i ≤ n ∧ n + 1 - i ≤ gg ∧ s7 = .int .i64 i ∧ Hid (∃ met, wq.ownsRow V.heap.size 3 1 s5 met.length (met.map (Value.int .i64)) ∧ met.Nodup ∧ (∀ x ∈ met, lk x = true) ∧ i ≤ met.length ∧ fF (n + 1 - i) i met = Sg) ∧ Hid (Below V.heap.size V wq))
        case atStart =>
          obtain ⟨met, h1, h2, h3, h4⟩ := INV.out
          exact ⟨0, Nat.zero_le _, by omega, rfl, ⟨met, h1, h2, h3, Nat.zero_le _, h4⟩, BRw.out⟩
        case round =>
          obtain ⟨i, hin, hgg, rfl, MM, BQ⟩ := hrel
          obtain ⟨G1, rfl⟩ : ∃ G, G = gk := ⟨_, rfl⟩
          clear INV BRw
          obtain ⟨met, om, hnd, hlk, hil, hfl⟩ := MM.out
          have hlen : met.length ≤ n := by have := ML.out met [] 0 hnd hlk; rw [MZ.out] at this; exact this.2.2
          obtain ⟨mA, mc, e9, im⟩ := ints_of_own om
          subst e9
          have OM := Lib.hid om
          have ND := Lib.hid hnd
          have LK := Lib.hid hlk
          have FL := Lib.hid hfl
          have x0 := CX.out wr BQ.out
          have BW : Hid (Below w.heap.size w wr) := BV.out.trans (BQ.out.mono BV.out.size)
          clear om hnd hlk hfl MM
          by_cases hlt : i < met.length
          · obtain ⟨x, hx⟩ : ∃ x, met[i]? = some x := ⟨_, List.getElem?_eq_getElem hlt⟩
            obtain ⟨j, o, e, hj, ho⟩ := LX.out x (LK.out x (List.mem_of_getElem? hx))
            subst e
            obtain ⟨ad, e, hal, hcx⟩ := im i _ hx
            subst e
            obtain ⟨a, sA, sc, e, hal2, ⟨o0, o1, o2, o3, o4⟩, hs⟩ := G.out j o ho
            subst e
            have hl2 : (ad.add i).block < wr.heap.size := by rw [Go.ChangeShapes.block_add]; exact hal
            have z2 : wr.cell? ⟨(a.add (j * 5)).block, (a.add (j * 5)).off + 2, none⟩ = some (.slice sA o.slots.length sc) := (BW.out.cell (p := ⟨(a.add (j * 5)).block, (a.add (j * 5)).off + 2, none⟩) (show (a.add (j * 5)).block < _ by rw [Go.ChangeShapes.block_add]; exact hal2)).trans o2
            have hl3 : (a.add (j * 5)).block < wr.heap.size := by rw [Go.ChangeShapes.block_add]; have := BW.out.size; omega
            have e1 : IntKind.i64.wrap ((j : Int) + 1 - 1) = (j : Int) := (IntWalk.i64_in _ (by omega)).trans (by omega)
            have e5 : IntKind.i64.wrap (j : Int) = (j : Int) := IntWalk.i64_in _ (by omega)
            have e4 : (j : Int) < (n : Int) := by omega
            have e6 : (i : Int) < (met.length : Int) := by omega
            have CALL := Lib.hid (RF.out wr.drew j o sA sc BW.out.drew ho hs)
            have MEx := Lib.hid (ME.out j o met ho)
            have FSx := Lib.hid (FS.out (n - i) i met _ hx)
            obtain ⟨sr1, sr2⟩ := SR.out j o ho
            have SRW := Lib.hid sr2
            clear o0 o1 o2 o3 o4 hs hx im ho sr2
            generalize refsL o.slots = R at *
            generalize o.slots.length = ns at *
            go_wp2_with fail
            go_region_law (go_simp; go_at_call 39; (with_reducible refine CALL.out.mono ?_); rintro e w5 ⟨v8, rfl, ho8, hb8⟩)
            all_goals
              obtain ⟨A8, c8, e8, i8, l8⟩ := ints_of_own2 ho8
              subst e8
              have HB5 : Below wr.heap.size wr w5 := ⟨hb8.os, hb8.tape, hb8.output, hb8.size, hb8.block⟩
              have B5 : Hid (Below V.heap.size V w5) := BQ.out.trans (HB5.mono BQ.out.size)
              have O5 : Hid (w5.ownsRow V.heap.size 3 1 (.slice (some ad) met.length mc) met.length (met.map (Value.int .i64))) := own_below OM.out HB5
              have I5 : Hid (ApartI w5 A8 R (.slice (some ad) met.length mc)) := ApartI.of i8 (fun a ha e => by
                have h1 := l8 a ha
                have h2 := (OM.out.lt _ e).2
                simp at h1
                omega)
              have MZm := Lib.hid (MZ.out met R)
              have MFm := Lib.hid (MF.out met R)
              clear hb8 ho8 i8 l8 HB5 CALL z2 hcx hl2 hl3 hal hal2 BQ x0 BW OM e1 e5 e4 e6
              obtain ⟨nr, hnr⟩ : ∃ nr, nr = R.length := ⟨_, rfl⟩
              have HNR := Lib.hid hnr
              have hnr9 : nr ≤ 8796093022208 := by omega
              rw [← hnr]
              clear hnr
              go_wp2_with fail
              go_loopg [5, 9] nr (fun gg s5 s9 wq => ∃ k : Nat, k ≤ nr ∧ nr - k ≤ gg ∧ s9 = .int .i64 k ∧ Hid (wq.ownsRow V.heap.size 3 1 s5 (mF met R k).length ((mF met R k).map (Value.int .i64))) ∧ Hid (Below V.heap.size V wq) ∧ Hid (ApartI wq A8 R s5))
              case atStart => exact ⟨0, Nat.zero_le _, by omega, rfl, (show World.ownsRow _ _ _ _ _ _ _ by rw [MZm.out]; exact O5.out), B5.out, I5.out⟩
              case round =>
                clear B5 O5 I5 MZm
                obtain ⟨k, hk, hgg2, rfl, O, BR, IA⟩ := hrel
                have BW : Hid (Below w.heap.size w wr) := BV.out.trans (BR.out.mono BV.out.size)
                obtain ⟨NDk, LKk, LEN⟩ := ML.out met R k ND.out LK.out
                by_cases hlt2 : k < nr
                · obtain ⟨x, hx⟩ : ∃ x, R[k]? = some x := ⟨_, List.getElem?_eq_getElem (by have := HNR.out; omega)⟩
                  obtain ⟨A5, c5, e5, i5⟩ := ints_of_own O.out
                  subst e5
                  obtain ⟨ad, e, hal, _, hcx⟩ := IA.out k x hx
                  subst e
                  have hl2 : (ad.add k).block < wr.heap.size := by rw [Go.ChangeShapes.block_add]; exact hal
                  have hwx := SRW.out x (List.mem_of_getElem? hx)
                  have x0 := CX.out wr BR.out
                  have r0 := fun d os => cell_regrown x0 d os
                  have r1 := fun d os => cell_regrown hcx d os
                  have ct := fun d os => Calls.regrown_of (TH.out (Go.Sort.grow (redrawn wr d) os) x (BW.out.trans ((below_regrown wr d os).mono BW.out.size)) hwx)
                  have ch := fun d os => Calls.regrown_of (HA.out (Go.Sort.grow (redrawn wr d) os) A5 c5 (mF met R k) x (by omega) (i5.below (below_regrown wr d os)))
                  have MYx := MY.out met R k x hx
                  have MNx := MN.out met R k x hx
                  clear hx i5 NDk LKk
                  cases hq : lk x with
                  | false =>
                    rw [hq] at ct
                    have E1 := Lib.hid (MNx (.inl hq))
                    clear ch MYx MNx hq
                    go_wp2_with fail
                    refine wp_region_quiet_below (by kernel_rfl) (by kernel_rfl) ?_
                    repeat (go_big_quiet_step (with_reducible exact ct _ _))
                    refine wpQuiet_nil ?_
                    intro w3 ⟨⟨dq, osq⟩, hw3⟩
                    have B3 : Hid (Below wr.heap.size wr w3) := by rw [hw3]; exact below_regrown wr dq osq
                    clear hw3 r0 r1 ct
                    go_wp2_with fail
                    go_roundg (nr - (k + 1))
                    case measure => omega
                    case rel => exact ⟨k + 1, by omega, by omega, by go_num, (show World.ownsRow _ _ _ _ _ _ _ by rw [E1.out]; exact own_below O.out B3.out), BR.out.trans (B3.out.mono BR.out.size), IA.out.below B3.out⟩
                  | true =>
                    rw [hq] at ct
                    by_cases hm : x ∈ mF met R k
                    · rw [decide_eq_true hm] at ch
                      have E1 := Lib.hid (MNx (.inr hm))
                      clear MYx MNx hq hm
                      go_wp2_with fail
                      refine wp_region_quiet_below (by kernel_rfl) (by kernel_rfl) ?_
                      repeat (go_big_quiet_step (first | (with_reducible exact ct _ _) | (with_reducible exact ch _ _)))
                      refine wpQuiet_nil ?_
                      intro w3 ⟨⟨dq, osq⟩, hw3⟩
                      have B3 : Hid (Below wr.heap.size wr w3) := by rw [hw3]; exact below_regrown wr dq osq
                      clear hw3 r0 r1 ct ch
                      go_wp2_with fail
                      go_roundg (nr - (k + 1))
                      case measure => omega
                      case rel => exact ⟨k + 1, by omega, by omega, by go_num, (show World.ownsRow _ _ _ _ _ _ _ by rw [E1.out]; exact own_below O.out B3.out), BR.out.trans (B3.out.mono BR.out.size), IA.out.below B3.out⟩
                    · rw [decide_eq_false hm] at ch
                      have E1 := Lib.hid (MYx hq hm)
                      clear MYx MNx hq hm
                      go_wp2_with fail
                      refine wp_region_quiet_below (by kernel_rfl) (by kernel_rfl) ?_
                      repeat (go_big_quiet_step (first | (with_reducible exact ct _ _) | (with_reducible exact ch _ _)))
                      refine wpQuiet_nil ?_
                      intro w3 ⟨⟨dq, osq⟩, hw3⟩
                      have B3 : Hid (Below wr.heap.size wr w3) := by rw [hw3]; exact below_regrown wr dq osq
                      clear hw3 r0 r1 ct ch
                      have q1 := (B3.out.cell (p := ad.add k) hl2).trans hcx
                      have O3 := Lib.hid (own_below O.out B3.out)
                      have BR3 : Hid (Below V.heap.size V w3) := BR.out.trans (B3.out.mono BR.out.size)
                      have hb3 := BR3.out.size
                      go_wp2_with (at_builtin; refine wpList_append_own_at _ rfl (.tmp 79) (.tmp 84) _ rfl V.heap.size 3 i0 _ 1 8 Try.underlying25 hi hz0 hz1 hz2 rfl (by decide) _ _ _ rfl (O3.out.alloc _) ⟨w3.heap.size, 0, none⟩ 1 1 [.int .i64 x] rfl rfl one_cell (by simp [Value.oneCell']) (by unfold maxLen; omega) (by omega) (by simp; omega) ?_; intro v' w8 hown8 hg8 _ at8)
                      have O8 : Hid (w8.ownsRow V.heap.size 3 1 v' (mF met R (k + 1)).length ((mF met R (k + 1)).map (Value.int .i64))) := (show World.ownsRow _ _ _ _ _ _ _ by rw [E1.out, List.length_append, List.map_append]; exact hown8)
                      have B8 : Hid (Below V.heap.size V w8) := (BR3.out.alloc BR3.out.size _).grown hg8 (by simp; omega) (fun b hb => (O3.out.lt b hb).1)
                      have A8g := Lib.hid ((IA.out.below B3.out).grown hg8 at8)
                      clear hown8 hg8 at8
                      go_roundg (nr - (k + 1))
                      case measure => omega
                      case rel => exact ⟨k + 1, by omega, by omega, by go_num, O8.out, B8.out, A8g.out⟩
                · have hkn : k = nr := by omega
                  have E0 : Hid (mF met R k = meetL lk met (heldG g ((j : Int) + 1))) := (show _ = _ by rw [hkn, HNR.out, MFm.out]; exact MEx.out)
                  have hp : met.length ≤ (mF met R k).length := by
                    rw [E0.out]
                    exact (meet_prefix (whom := lk) (met := met) (l := heldG g ((j : Int) + 1))).length_le
                  have FL2 : Hid (fF (n + 1 - (i + 1)) (i + 1) (mF met R k) = Sg) := (show _ = _ by rw [E0.out, ← FL.out, show n + 1 - i = n - i + 1 by omega, FSx.out, show n + 1 - (i + 1) = n - i by omega])
                  clear hkn E0 FL FSx MEx MFm
                  go_wp2_with fail
                  go_roundg (n + 1 - (i + 1))
                  case measure => omega
                  case rel => exact ⟨i + 1, by omega, by omega, by go_num, ⟨_, O.out, NDk, LKk, by omega, FL2.out⟩, BR.out⟩
          · have him : i = met.length := by omega
            have E2 := Lib.hid ((FE.out (n + 1 - i) i met (by omega)).symm.trans FL.out)
            have O9 := Lib.hid OM.out
            clear him FL
            go_wp2_with fail
            go_ret
            refine ⟨_, rfl, ?_, BV.out.trans (BQ.out.mono BV.out.size)⟩
            rw [← E2.out]
            exact own_less O9.out BV.out.size
end Go.Proofs.Ytjlobjgemhapaaa
