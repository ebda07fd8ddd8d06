/- reach.rounds, whatever is looked at: round by round all that is in the set. -/
import Derived.Test.YtghnjmodnhnmfaaRcKeys
import Derived.Deep.OwnRows
import Derived.Deep.LoopGhost
import Derived.Shelf.Abstract
namespace Go.Proofs.Ytghnjmodnhnmfaa
set_option maxRecDepth 20000
open Go.RowKit Go.Maps

/-- Of what was there only the blocks of S were written. -/
structure Frm (S : Nat → Prop) (w w' : World) : Prop where
  os : w'.os = w.os
  tape : w'.tape = w.tape
  output : w'.output = w.output
  size : w.heap.size ≤ w'.heap.size
  block : ∀ k, k < w.heap.size → ¬ S k → w'.heap[k]? = w.heap[k]?
theorem Frm.refl (S : Nat → Prop) (w : World) : Frm S w w := ⟨rfl, rfl, rfl, Nat.le_refl _, fun _ _ _ => rfl⟩
theorem Frm.trans {S : Nat → Prop} {w w1 w2 : World} (h : Frm S w w1) (k : Frm S w1 w2) : Frm S w w2 :=
  ⟨k.os.trans h.os, k.tape.trans h.tape, k.output.trans h.output, Nat.le_trans h.size k.size, fun i hi hn => (k.block i (Nat.lt_of_lt_of_le hi h.size) hn).trans (h.block i hi hn)⟩
theorem Frm.grown {S : Nat → Prop} {w w1 w2 : World} (h : Frm S w w1) {g : Nat} (hg : w1.grownBy w2 (some g)) (hs : S g) : Frm S w w2 :=
  ⟨hg.os.trans h.os, hg.tape.trans h.tape, hg.output.trans h.output, Nat.le_trans h.size hg.size, fun k hk hn => (hg.block k (Nat.lt_of_lt_of_le hk h.size) (by intro e; injection e with e; subst e; exact hn hs)).trans (h.block k hk hn)⟩
theorem Frm.set {S : Nat → Prop} {w w1 : World} (h : Frm S w w1) {p : Addr} (hs : S p.block) (v : Value) : Frm S w (w1.setCell p v) :=
  ⟨h.os, h.tape, h.output, by simpa [World.setCell] using h.size, fun k hk hn => (Below.heap_setCell _ _ _ _ (by rintro rfl; exact hn hs)).trans (h.block k hk hn)⟩
theorem Frm.drew {S : Nat → Prop} {w w1 : World} (h : Frm S w w1) : Frm S w w1.drew := ⟨h.os, h.tape, h.output, h.size, h.block⟩
theorem Frm.below {S : Nat → Prop} {w w1 : World} {base : Nat} (h : Frm S w w1) (hb : base ≤ w.heap.size) (hs : ∀ k, S k → base ≤ k) : Below base w w1 :=
  ⟨h.os, h.tape, h.output, h.size, fun k hk => h.block k (by omega) (fun e => by have := hs k e; omega)⟩
theorem Frm.of_below (S : Nat → Prop) {w w1 : World} (h : Below w.heap.size w w1) : Frm S w w1 := ⟨h.os, h.tape, h.output, h.size, fun k hk _ => h.block k hk⟩
theorem Frm.mono {S T : Nat → Prop} {w w1 : World} (h : Frm S w w1) (hs : ∀ k, S k → T k) : Frm T w w1 := ⟨h.os, h.tape, h.output, h.size, fun k hk hn => h.block k hk fun e => hn (hs k e)⟩
theorem Frm.cell {S : Nat → Prop} {w w1 : World} (h : Frm S w w1) {p : Addr} (hp : p.block < w.heap.size) (hn : ¬ S p.block) : w1.cell? p = w.cell? p := World.cell?_of_block (h.block _ hp hn)
theorem ints_frm {S : Nat → Prop} {w w1 : World} (h : Frm S w w1) {A : Option Addr} {xs : List Int} (hi : IntsAt w A xs) (hn : ∀ a, A = some a → ¬ S a.block) : IntsAt w1 A xs := by
  intro i x hx
  obtain ⟨ad, e, hl, hc⟩ := hi i x hx
  exact ⟨ad, e, Nat.lt_of_lt_of_le hl h.size, (h.cell (by rw [Go.ChangeShapes.block_add]; exact hl) (by rw [Go.ChangeShapes.block_add]; exact hn ad e)).trans hc⟩
theorem ints_of_own2 {w : World} {base : Nat} {v : Value} {xs : List Int} (h : w.ownsRow base 3 1 v xs.length (xs.map (Value.int .i64))) : ∃ A c, v = .slice A xs.length c ∧ IntsAt w A xs ∧ ∀ a, A = some a → base ≤ a.block := by
  obtain ⟨A, c, rfl, hi⟩ := ints_of_own h
  refine ⟨A, c, rfl, hi, ?_⟩
  rintro a rfl
  exact (h.lt a.block rfl).1
theorem MapT.run_len {w : World} {m : Nat} {T : List Nat} (h : MapT w m T) (ty : TypeId) : (Builtin.len_ #[127] ty #[.map (some m)]).run Try.prog w = .ok (.int .i64 T.length) w := by
  obtain ⟨_, _, D, ho, hs, _⟩ := h
  have := ho.len Try.underlying127 ty
  rw [hs] at this
  exact this
set_option maxHeartbeats 4000000 in
theorem rounds_any {w : World} {mb g : Nat} {lb : Array Value} (eg : ∀ args w, (callFunc g args).run Try.prog w = .ok (.enter g args) w) (S : Nat → Prop) (hmS : S mb) (hSw : ∀ k, S k → k < w.heap.size)
    (I : Nat → List Nat → World → Prop) (H : Nat → List Nat → World → Prop) (N : Nat) (hN : N ≤ 1099511627776)
    (hT : ∀ r T W, H r T W → MapT W mb T) (hB : ∀ r T W W', H r T W → Below W.heap.size W W' → H r T W')
    (hI : ∀ (r k : Nat) K W, I r (k :: K) W → r ≤ N ∧ ∃ T, MapT W mb T ∧ k ∈ T ∧ ∀ W', MapT W' mb (T.erase k) → W.grownBy W' (some mb) →
      Calls Try.prog g (#[iV k, iV r] ++ lb) W' fun e w' => e = .returned (.tuple #[]) ∧ I r K w' ∧ Frm S W' w')
    (h1 : ∀ r T W K, H r T W → K.Perm T → K ≠ [] → I r K W) (h2 : ∀ r W, I r [] W → ∃ T, H (r + 1) T W)
    {T0 : List Nat} (h0 : H 1 T0 w) :
    Calls Try.prog 134 #[.map (some mb), .func (.func g) #[] lb] w fun e w' => e = .returned (.tuple #[]) ∧ (∃ r, H r [] w') ∧ Frm S w w' := by
  have HB := Lib.hid hB
  have HT := Lib.hid hT
  have HI := Lib.hid hI
  have H1 := Lib.hid h1
  have H2 := Lib.hid h2
  have SW := Lib.hid hSw
  clear hB hI h1 h2 hSw hT
  have KA : Hid (∀ W, Calls Try.prog 169 #[.map (some mb)] W fun e w' => e = .returned (.func (.func 180) #[] #[bV W.heap.size]) ∧ w' = W.alloc (.cells #[.map (some mb)] 127 (0, 0))) := fun W => Keys_any (some mb) W
  go_enter Try.func134, Try.ntmps134
  go_wp2_with fail
  go_loopg [4] (N + 2) (fun gg s4 wr => ∃ r : Nat, 1 ≤ r ∧ r ≤ N + 1 ∧ N + 2 - r ≤ gg ∧ s4 = .int .i64 r ∧ Hid (∃ T, H r T wr) ∧ Hid (Frm S w wr))
  case atStart => exact ⟨1, Nat.le_refl _, by omega, by omega, rfl, ⟨T0, h0⟩, Frm.refl _ _⟩
  case round =>
    obtain ⟨r, hr1, hr2, hgg, rfl, HH, FF⟩ := hrel
    obtain ⟨T, hHT⟩ := HH.out
    have hM := HT.out r T wr hHT
    have HH := Lib.hid hHT
    clear hHT
    have hlen := fun ty => hM.run_len ty
    have MM := Lib.hid hM
    cases hTT : T with
    | nil =>
      subst hTT
      clear hM
      go_wp2_with fail
      refine bodyPost_end (results_none rfl _ _ _) rfl ?_
      exact ⟨rfl, ⟨r, HH.out⟩, FF.out⟩
    | cons x T' =>
      have hne : T ≠ [] := by rw [hTT]; simp
      have NE := Lib.hid hne
      have hpos : (0 : Int) < (T.length : Int) := by rw [hTT]; simp
      clear hM hTT hne
      generalize T.length = nT at *
      have hgt : ((nT : Int) > 0) = True := eq_true hpos
      go_wp2_with (first
        | (go_at_call 169; refine (KA.out _).mono ?_; rintro e w1 ⟨rfl, rfl⟩)
        | (go_at_call 168; refine (Sorted_any (T := T) (mb := mb) (by simp) (MM.out.keep (Below.heap_alloc _ _ _ MM.out.lt))).mono ?_; rintro e V ⟨v, K, rfl, hK, hown, hb⟩; have B1 := Lib.hid (below_box hb); have KK := Lib.hid hK; obtain ⟨RA, rc, rfl, hri, hra⟩ := ints_of_own2 hown; have RI := Lib.hid hri; have RB := Lib.hid hra; clear hown hb hK hri hra))
      have IV : Hid (I r K V) := H1.out r T V K (HB.out r T wr V HH.out B1.out) KK.out (fun e => NE.out (by have := KK.out; rw [e] at this; exact this.symm.eq_nil))
      have FV : Hid (Frm S w V) := FF.out.trans (Frm.of_below S B1.out)
      have NS : Hid (∀ a, RA = some a → ¬ S a.block) := fun a ha hs => by
        have := RB.out a ha
        have := SW.out _ hs
        have := FF.out.size
        simp at *
        omega
      have hr3 : r ≤ N := by
        cases hK : K with
        | nil => exact absurd (by have := KK.out; rw [hK] at this; exact this.symm.eq_nil) NE.out
        | cons k K' => have := IV.out; rw [hK] at this; exact (HI.out r k K' V this).1
      have LK : Hid ((intsOf K).length = K.length) := show _ = _ from intsOf_len K
      clear NE RB hgt
      rw [LK.out]
      obtain ⟨R, hR⟩ : ∃ R, R = gk := ⟨_, rfl⟩
      rw [← hR] at *
      clear hR
      have hbig : K.length ≤ 1099511627777 := by
        rw [KK.out.length_eq]; exact short_of MM.out.1 MM.out.2.1
      go_loopg [16] K.length (fun gg s16 W => ∃ j : Nat, j ≤ K.length ∧ K.length - j ≤ gg ∧ s16 = .int .i64 j ∧ Hid (I r (K.drop j) W) ∧ Hid (Frm S V W))
      case atStart => exact ⟨0, Nat.zero_le _, by omega, rfl, IV.out, Frm.refl _ _⟩
      case round =>
        obtain ⟨j, hj, hg2, rfl, II, FW⟩ := hrel
        by_cases hlt : j < K.length
        · obtain ⟨k, hk⟩ : ∃ k, K[j]? = some k := ⟨_, List.getElem?_eq_getElem hlt⟩
          have hdr : K.drop j = k :: K.drop (j + 1) := by
            rw [List.drop_eq_getElem_cons hlt]
            congr 1
            have := List.getElem?_eq_some_iff.1 hk
            exact this.2
          obtain ⟨ad, e, hal, hc⟩ := (ints_frm FW.out RI.out NS.out) j k (intsOf_get hk)
          subst e
          have I2 : Hid (I r (k :: K.drop (j + 1)) wr) := by have := II.out; rw [hdr] at this; exact this
          obtain ⟨-, T2, hM2, hk2, hcl⟩ := HI.out r k _ wr I2.out
          obtain ⟨w2, hdel, hM3, hg3⟩ := hM2.run_del k (hM2.2.1 k hk2) hk2 0
          have hk3 := hM2.2.1 k hk2
          have hl2 : (ad.add j).block < wr.heap.size := by rw [Go.ChangeShapes.block_add]; exact hal
          have CALL := Lib.hid (hcl w2 hM3 hg3)
          have F3 : Hid (Frm S V w2) := FW.out.grown hg3 hmS
          clear hM2 hM3 hg3 hk hk2 hdr hcl
          go_wp2_with (go_at_fn g; refine CALL.out.mono ?_; rintro e w4 ⟨rfl, hi4, hf4⟩; have I4 := Lib.hid hi4; have F4 := Lib.hid hf4; clear hi4 hf4)
          go_roundg (K.length - (j + 1))
          case measure => omega
          case rel => exact ⟨j + 1, by omega, by omega, by go_num, I4.out, F3.out.trans F4.out⟩
        · have hjn : j = K.length := by omega
          have I2 : Hid (∃ T, H (r + 1) T wr) := by
            have := II.out
            rw [hjn, List.drop_length] at this
            exact H2.out r wr this
          clear hjn
          go_wp2_with fail
          go_roundg (N + 2 - (r + 1))
          case measure => omega
          case rel => exact ⟨r + 1, by omega, by omega, by omega, by go_num, I2.out, FV.out.trans FW.out⟩
end Go.Proofs.Ytghnjmodnhnmfaa
