/- tallowref11.far; ahead of it plain words on its rounds. -/
import Derived.Test.YtiocfnpfmilkgaaRcRefA
import Derived.Test.YtiocfnpfmilkgaaRcLen
import Derived.Test.YtiocfnpfmilkgaaGrInto
namespace Go.Proofs.Ytiocfnpfmilkgaa
set_option maxRecDepth 20000


/-- What is known of the object with index i after the rounds up to r. -/
def trL (f : Nat → Nat) (r i : Nat) : Nat := if f (i + 1) ≤ r then f (i + 1) else 0
/-- While the round r is at index i. -/
def mixL (f : Nat → Nat) (r i : Nat) : Nat → Nat := fun j => if j < i then trL f (r + 1) j else trL f r j
theorem mix_zero (f : Nat → Nat) (r : Nat) : mixL f r 0 = trL f r := by funext j; simp [mixL]
theorem mix_full (f : Nat → Nat) (r n j : Nat) (h : j < n) : mixL f r n j = trL f (r + 1) j := by simp [mixL, h]
theorem mix_at (f : Nat → Nat) (r i : Nat) : mixL f r i i = trL f r i := by simp [mixL]
theorem mix_same {f : Nat → Nat} {r i : Nat} (h : trL f (r + 1) i = trL f r i) : mixL f r (i + 1) = mixL f r i := by
  funext j
  unfold mixL
  by_cases e : j = i
  · subst e; simp [h]
  · by_cases e2 : j < i
    · rw [if_pos e2, if_pos (by omega)]
    · rw [if_neg e2, if_neg (by omega)]
theorem mix_skip {f : Nat → Nat} {r i : Nat} (h : trL f r i ≠ 0) : mixL f r (i + 1) = mixL f r i := by
  refine mix_same ?_
  unfold trL at h ⊢
  split at h
  · rename_i h1; rw [if_pos h1, if_pos (by omega)]
  · exact absurd rfl h
theorem mix_none {g : List OB} {b : Nat} {f : Nat → Nat} (hf : Dist g b f) {r i : Nat} (hr : 1 ≤ r) (h : trL f r i = 0) (hn : ∀ x ∈ heldN g (i + 1), f x ≠ r) : mixL f r (i + 1) = mixL f r i := by
  refine mix_same ?_
  rw [h]
  have : f (i + 1) ≠ r + 1 := fun e => by
    obtain ⟨x, hx, e2⟩ := hf.down (a := i + 1) (k := r - 1) (by omega)
    exact hn x hx (by omega)
  unfold trL at h ⊢
  split at h <;> split <;> omega
theorem mix_set {g : List OB} {b : Nat} {f : Nat → Nat} (hf : Dist g b f) {r i x : Nat} (hr : 1 ≤ r) (h : trL f r i = 0) (hx : x ∈ heldN g (i + 1)) (e : f x = r) : (fun j => if j = i then r + 1 else mixL f r i j) = mixL f r (i + 1) := by
  have h1 := hf.held hx (by omega)
  have h2 : f (i + 1) = r + 1 := by
    unfold trL at h
    split at h <;> omega
  funext j
  unfold mixL
  by_cases ej : j = i
  · subst ej; simp [trL, h2]
  · by_cases e2 : j < i
    · rw [if_neg ej, if_pos e2, if_pos (by omega)]
    · rw [if_neg ej, if_neg e2, if_neg (by omega)]
theorem mix_eq {f : Nat → Nat} {r i x : Nat} (hr : 1 ≤ r) (hx : 1 ≤ x) : (mixL f r i (x - 1) = r) ↔ f x = r := by
  unfold mixL trL
  rw [show x - 1 + 1 = x by omega]
  split <;> split <;> omega
theorem tr_one {g : List OB} {b : Nat} {f : Nat → Nat} (hf : Dist g b f) (hb : 1 ≤ b) : (fun j => if j = b - 1 then 1 else 0) = trL f 1 := by
  funext j
  unfold trL
  have h0 := hf.self
  by_cases e : j = b - 1
  · rw [if_pos e, show j + 1 = b by omega, h0]; rfl
  · rw [if_neg e]
    split
    · have : f (j + 1) ≠ 1 := fun h => by have := hf.one h; omega
      omega
    · rfl
theorem tr_all {f : Nat → Nat} {r i : Nat} (h : f (i + 1) ≤ r) : trL f r i = f (i + 1) := by unfold trL; rw [if_pos h]

open Go.RowKit Go.Maps

theorem held_int {g : List OB} {i : Nat} {o : OB} (ho : g[i]? = some o) {x : Int} (hx : x ∈ refsL o.slots) : x.toNat ∈ heldN g (i + 1) := by
  rw [held_at ho]; exact List.mem_map.2 ⟨x, hx, rfl⟩
set_option maxHeartbeats 4000000 in
theorem RFar_any {w : World} {A : Option Addr} {c : Nat} {g : List OB} (hg : GAt w A g) (hc : checkB g = true) (hn : g.length ≤ 900) {b : Nat} (hb : thereN g b = true) :
    Calls Try.prog 76 #[gV A g.length c, iV b] w fun e w' => ∃ bl, e = .returned (.slice (some ⟨bl, 0, none⟩) g.length g.length) ∧ RowL w' bl g.length (fun i => distF g b (i + 1)) ∧ w.heap.size ≤ bl ∧ Below w.heap.size w w' := by
  have mk := run_make_ints g.length (by omega)
  have hD := dist_is g b
  have hbr := there_le hb
  have DL : Hid (∀ i, distF g b i ≤ g.length) := hD.le hc hb
  have ONE := Lib.hid (tr_one hD hbr.1)
  have G := Lib.hid hg
  have GET : Hid (∀ i, i < g.length → ∃ p, g[i]? = some p) := fun i hi => ⟨_, List.getElem?_eq_getElem hi⟩
  have RF : Hid (∀ W sA sc (o : Proofs.Ytiocfnpfmilkgaa.OB), SlotsAt w o sA → Below w.heap.size w W → Calls Try.prog 77 #[.slice sA o.slots.length sc] W fun e w' => ∃ A1 c1, e = .returned (.slice A1 (refsL o.slots).length c1) ∧ IntsAt w' A1 (refsL o.slots) ∧ (∀ a, A1 = some a → W.heap.size ≤ a.block) ∧ Below W.heap.size W w') := fun W sA sc o hs hW => (RRefs_any sA sc o.slots W (by have := hs.2; omega) (pairs_below hs.1 hW)).mono fun e w' ⟨v, h1, h2, h3⟩ => by
    obtain ⟨A1, c1, rfl, h4, h5⟩ := ints_of_own2 h2
    exact ⟨A1, c1, h1, h4, h5, h3⟩
  have NONE : Hid (∀ (i r : Nat) (o : Proofs.Ytiocfnpfmilkgaa.OB), g[i]? = some o → 1 ≤ r → trL (distF g b) r i = 0 → (∀ x ∈ refsL o.slots, distF g b x.toNat ≠ r) → mixL (distF g b) r (i + 1) = mixL (distF g b) r i) := fun i r o ho hr h0 hx => mix_none hD hr h0 (fun x hxh => by
    rw [held_at ho] at hxh
    obtain ⟨y, hy, rfl⟩ := List.mem_map.1 hxh
    exact hx y hy)
  have SET : Hid (∀ (i r : Nat) (o : Proofs.Ytiocfnpfmilkgaa.OB) (x : Int), g[i]? = some o → 1 ≤ r → trL (distF g b) r i = 0 → x ∈ refsL o.slots → distF g b x.toNat = r → (fun j => if j = i then r + 1 else mixL (distF g b) r i j) = mixL (distF g b) r (i + 1)) := fun i r o x ho hr h0 hx e => mix_set hD hr h0 (held_int ho hx) e
  have RNG : Hid (∀ (i : Nat) (o : Proofs.Ytiocfnpfmilkgaa.OB), g[i]? = some o → ∀ x ∈ refsL o.slots, 1 ≤ x ∧ x.toNat ≤ g.length) := fun i o ho x hx => by
    have h1 := (refs_range hx).1
    exact ⟨h1, (there_le (held_there hc (held_int ho hx))).2⟩
  have RLN : Hid (∀ (i : Nat) (o : Proofs.Ytiocfnpfmilkgaa.OB) sA, SlotsAt w o sA → (refsL o.slots).length ≤ 8796093022208) := fun i o sA hs => Nat.le_trans (refsL_len _) (by have := hs.2; omega)
  clear hg hb hc hD
  obtain ⟨f, hf⟩ : ∃ f, f = distF g b := ⟨_, rfl⟩
  rw [← hf] at DL ONE NONE SET
  rw [← hf]
  clear hf
  generalize g.length = n at *
  go_enter Try.func76, Try.ntmps76
  go_upto_region 2 with (fail)
  refine at_world (fun V => Below w.heap.size w V ∧ V.cell? ⟨w.heap.size, 0, none⟩ = some (.slice A n c) ∧ RowL V (w.heap.size + 1) n fun _ => 0) ?_ fun V0 HV => ?_
  · refine ⟨((Below.refl _ _).alloc (Nat.le_refl _) _).alloc (by simp) _, by simp [go_sem], ?_⟩
    have h := World.rowIs_made (w.alloc (Obj.cells #[Value.slice A n c] 41 (0, 0))) (.int .i64 0) n 3
    have e : (w.alloc (Obj.cells #[Value.slice A n c] 41 (0, 0))).heap.size = w.heap.size + 1 := by simp
    rw [e] at h
    exact h
  obtain ⟨hb, c0, hr⟩ := HV
  have B0 := Lib.hid hb
  have hlt0 := hr.lt
  have hne : ¬ w.heap.size = w.heap.size + 1 := by omega
  obtain ⟨bl, hbb⟩ : ∃ bl, bl = w.heap.size + 1 := ⟨_, rfl⟩
  have HB := Lib.hid hbb
  have hwb : w.heap.size ≤ bl := by omega
  rw [← hbb] at hr hlt0 hne ⊢
  clear hbb mk hb
  obtain ⟨j, hj⟩ : ∃ j : Nat, j = b - 1 := ⟨_, rfl⟩
  have hcast : (b : Int) - 1 = (j : Int) := by omega
  have hwr : IntKind.i64.wrap (j : Int) = (j : Int) := IntWalk.i64_in _ (by omega)
  have hjn : j < n := by omega
  have hjn2 : (j : Int) < (n : Int) := by omega
  have y0 := hr.cell hjn
  have f0 := World.rowIs.frozen hr j
  have R1 : Hid (RowL (V0.setCell ⟨bl, j, none⟩ (.int .i64 1)) bl n (trL f 1)) := (show RowL _ _ _ _ from World.rowIs.congr (hr.set (m := j) 1) fun i _ => by
    rw [← ONE.out]
    show Value.int _ _ = Value.int _ _
    unfold updL
    by_cases e : i = j
    · subst e; simp [hj]
    · have : ¬ i = b - 1 := by omega
      simp [e, this])
  have F1 : Hid (Frm (fun x => x = bl) V0 (V0.setCell ⟨bl, j, none⟩ (.int .i64 1))) := (Frm.refl (fun x => x = bl) V0).set (p := ⟨bl, j, none⟩) rfl _
  clear hr hj ONE
  have zV : w.heap.size < V0.heap.size := by omega
  go_wp2_with fail
  clear y0 f0 hcast hwr
  go_loopg [6] (n + 1) (fun gg s6 wr => ∃ r : Nat, 1 ≤ r ∧ r ≤ n + 1 ∧ n + 1 - r ≤ gg ∧ s6 = .int .i64 r ∧ Hid (RowL wr bl n (trL f r)) ∧ Hid (Frm (fun x => x = bl) V0 wr))
  case atStart => exact ⟨1, Nat.le_refl _, by omega, by omega, rfl, R1.out, F1.out⟩
  case round =>
    clear R1 F1
    obtain ⟨r, hr1, hr2, hgg, rfl, RR, FF⟩ := hrel
    have x0 : wr.cell? ⟨w.heap.size, 0, none⟩ = some (.slice A n c) := (FF.out.cell (p := ⟨w.heap.size, 0, none⟩) zV hne).trans c0
    by_cases hlt : r ≤ n
    · obtain ⟨G1, rfl⟩ : ∃ G1, G1 = gk := ⟨_, rfl⟩
      have RM : Hid (RowL wr bl n (mixL f r 0)) := (show RowL _ _ _ _ by rw [mix_zero]; exact RR.out)
      go_wp2_with fail
      clear x0
      go_loopg [7] n (fun gg s7 wq => ∃ i : Nat, i ≤ n ∧ n - i ≤ gg ∧ s7 = .int .i64 i ∧ Hid (RowL wq bl n (mixL f r i)) ∧ Hid (Frm (fun x => x = bl) V0 wq))
      case atStart => exact ⟨0, Nat.zero_le _, by omega, rfl, RM.out, FF.out⟩
      case round =>
        clear RR RM FF
        obtain ⟨i, hi, hg2, rfl, RR, FF⟩ := hrel
        have x0 : wr.cell? ⟨w.heap.size, 0, none⟩ = some (.slice A n c) := (FF.out.cell (p := ⟨w.heap.size, 0, none⟩) zV hne).trans c0
        have BW : Hid (Below w.heap.size w wr) := below_frm B0.out FF.out (fun j hj => by omega)
        by_cases hlt2 : i < n
        · obtain ⟨o, ho⟩ := GET.out i hlt2
          obtain ⟨a, sA, sc, e, hal, ⟨o0, o1, o2, o3, o4⟩, hs⟩ := (G.out.below BW.out) i o ho
          subst e
          have hl2 : (a.add (i * 5)).block < wr.heap.size := by rw [Go.ChangeShapes.block_add]; exact hal
          have hli : (i : Int) < (n : Int) := by omega
          have hsw := (G.out) i o ho
          obtain ⟨a', sA', sc', e', hal', ⟨p0, p1, p2, p3, p4⟩, hs'⟩ := hsw
          injection e' with e'
          subst e'
          have hblr := RR.out.lt
          have o2' := (BW.out.cell (p := ⟨(a.add (i * 5)).block, (a.add (i * 5)).off + 2, none⟩) (show (a.add (i * 5)).block < _ by rw [Go.ChangeShapes.block_add]; exact hal')).trans p2
          rw [o2] at o2'
          injection o2' with o2'
          injection o2' with q1 q2 q3
          subst q1 q3
          have CALL := Lib.hid (RF.out wr sA sc o hs' BW.out)
          have NN := NONE.out i r o ho hr1
          have SS := SET.out i r o
          have RGo := Lib.hid (RNG.out i o ho)
          have RL2 := RLN.out i o sA hs'
          have HO := Lib.hid ho
          clear o0 o1 o3 o4 p0 p1 p2 p3 p4 hs hs' ho hal'
          go_wp2_with (go_at_call 77; (with_reducible refine CALL.out.mono ?_); rintro e w4 ⟨A4, c4, rfl, i4, l4, hb4⟩)
          have I4 := Lib.hid i4
          have A4B : Hid (∀ a, A4 = some a → ¬ a.block = bl) := fun a e => by have := l4 a e; omega
          have R4 := Lib.hid (RR.out.below hb4)
          have F4 : Hid (Frm (fun x => x = bl) V0 w4) := FF.out.trans (Frm.of_below _ hb4)
          clear i4 l4 hb4 CALL x0 o2 RR FF BW hl2 hal
          generalize refsL o.slots = R2 at *
          obtain ⟨G2, rfl⟩ : ∃ G2, G2 = gk := ⟨_, rfl⟩
          by_cases ht : trL f r i = 0
          · have NO := Lib.hid (NN ht)
            have SE : Hid (∀ x ∈ R2, f x.toNat = r → (fun j => if j = i then r + 1 else mixL f r i j) = mixL f r (i + 1)) := fun x hx e => SS x HO.out hr1 ht hx e
            clear NN SS
            go_loopg [9] R2.length (fun gg s9 wx => ∃ (k : Nat) (dn : Bool), k ≤ R2.length ∧ R2.length - k ≤ gg ∧ s9 = .int .i64 k ∧ Hid (RowL wx bl n (if dn then mixL f r (i + 1) else mixL f r i)) ∧ Hid (dn = false → ∀ x ∈ R2.take k, f x.toNat ≠ r) ∧ Hid (dn = true → mixL f r (i + 1) i ≠ 0) ∧ Hid (Frm (fun x => x = bl) w4 wx))
            case atStart => exact ⟨0, false, Nat.zero_le _, by omega, rfl, R4.out, (fun _ x hx => by simp at hx), (fun e => by cases e), Frm.refl _ _⟩
            case round =>
              clear R4
              obtain ⟨k, dn, hk, hg3, rfl, RX, NX, YX, FX⟩ := hrel
              have F9 : Hid (Frm (fun x => x = bl) V0 wr) := F4.out.trans FX.out
              cases hdn : dn with
              | true =>
                rw [hdn] at RX
                have y0 := RX.out.cell hlt2
                have hv := YX.out hdn
                have RX2 : Hid (RowL wr bl n (mixL f r (i + 1))) := RX.out
                simp only [if_true] at y0
                generalize mixL f r (i + 1) i = v at *
                have hv0 : ((v : Int) == 0) = false := by rw [beq_eq_false_iff_ne]; omega
                clear NX YX RX hdn hv
                by_cases hkl : k < R2.length
                · have hd : decide ((k : Int) < (R2.length : Int)) = true := by simp; omega
                  go_wp2_with fail
                  go_roundg (G2 - 1)
                  case measure => omega
                  case rel => exact ⟨i + 1, by omega, by omega, by go_num, RX2.out, F9.out⟩
                · have hd : decide ((k : Int) < (R2.length : Int)) = false := by simp; omega
                  go_wp2_with fail
                  go_roundg (G2 - 1)
                  case measure => omega
                  case rel => exact ⟨i + 1, by omega, by omega, by go_num, RX2.out, F9.out⟩
              | false =>
                rw [hdn] at RX
                have NX2 := Lib.hid (NX.out hdn)
                have RX2 : Hid (RowL wr bl n (mixL f r i)) := RX.out
                have y0 : wr.cell? ⟨bl, i, none⟩ = some (.int .i64 0) := by
                  have := RX2.out.cell hlt2
                  rw [mix_at, ht] at this
                  exact this
                clear NX YX RX hdn
                by_cases hkl : k < R2.length
                · obtain ⟨x, hx⟩ : ∃ x, R2[k]? = some x := ⟨_, List.getElem?_eq_getElem hkl⟩
                  have hxm := List.mem_of_getElem? hx
                  obtain ⟨x1, x2⟩ := RGo.out x hxm
                  obtain ⟨ad, e, hal4, hcx⟩ := (ints_frm FX.out I4.out A4B.out) k x hx
                  subst e
                  obtain ⟨q, hq⟩ : ∃ q : Nat, q = x.toNat - 1 := ⟨_, rfl⟩
                  have hcast : x - 1 = (q : Int) := by omega
                  have hwr : IntKind.i64.wrap (q : Int) = (q : Int) := IntWalk.i64_in _ (by omega)
                  have hqn : q < n := by omega
                  have hqn2 : (q : Int) < (n : Int) := by omega
                  have hd : decide ((k : Int) < (R2.length : Int)) = true := by simp; omega
                  have z0 := RX2.out.cell hqn
                  have EQ := mix_eq (f := f) (i := i) (x := x.toNat) hr1 (by omega)
                  rw [← hq] at EQ
                  have NX3 : Hid (f x.toNat ≠ r → ∀ y ∈ R2.take (k + 1), f y.toNat ≠ r) := fun h y hy => by
                    rw [List.take_add_one, hx] at hy
                    rcases List.mem_append.1 hy with hy | hy
                    · exact NX2.out y hy
                    · simp at hy; subst hy; exact h
                  have SX := SE.out x hxm
                  clear hx hxm hq
                  by_cases hfr : f x.toNat = r
                  · have hv : ((mixL f r i q : Nat) : Int) = (r : Int) := by rw [EQ.2 hfr]
                    have S1 := SX hfr
                    have f1 := World.rowIs.frozen RX2.out i
                    have R9 : Hid (RowL (wr.setCell ⟨bl, i, none⟩ (.int .i64 ((r : Int) + 1))) bl n (mixL f r (i + 1))) := (show RowL _ _ _ _ by
                      have := RX2.out.set (m := i) (r + 1)
                      rw [show ((r + 1 : Nat) : Int) = (r : Int) + 1 by omega] at this
                      rw [← S1]; exact this)
                    have F8 : Hid (Frm (fun x => x = bl) w4 (wr.setCell ⟨bl, i, none⟩ (.int .i64 ((r : Int) + 1)))) := FX.out.set rfl _
                    have V9 : mixL f r (i + 1) i ≠ 0 := by rw [← S1]; simp
                    rw [hv] at z0
                    clear EQ S1 SX NX3 hfr NX2
                    go_wp2_with fail
                    go_roundg (R2.length - (k + 1))
                    case measure => omega
                    case rel => exact ⟨k + 1, true, by omega, by omega, by go_num, R9.out, (fun e => by cases e), (fun _ => V9), F8.out⟩
                  · have hv : (((mixL f r i q : Nat) : Int) == (r : Int)) = false := by
                      rw [beq_eq_false_iff_ne]; intro e; exact hfr (EQ.1 (by omega))
                    have N9 := Lib.hid (NX3.out hfr)
                    generalize mixL f r i q = v at *
                    clear EQ SX NX3 hfr NX2
                    go_wp2_with fail
                    go_roundg (R2.length - (k + 1))
                    case measure => omega
                    case rel => exact ⟨k + 1, false, by omega, by omega, by go_num, RX2.out, (fun _ => N9.out), (fun e => by cases e), FX.out⟩
                · have hd : decide ((k : Int) < (R2.length : Int)) = false := by simp; omega
                  have hkn : k = R2.length := by omega
                  have R9 : Hid (RowL wr bl n (mixL f r (i + 1))) := (show RowL _ _ _ _ by
                    rw [NO.out (fun x hx => NX2.out x (by rw [hkn, List.take_of_length_le (Nat.le_refl _)]; exact hx))]
                    exact RX2.out)
                  clear hkn NX2
                  go_wp2_with fail
                  go_roundg (G2 - 1)
                  case measure => omega
                  case rel => exact ⟨i + 1, by omega, by omega, by go_num, R9.out, F9.out⟩
          · have R9 : Hid (RowL w4 bl n (mixL f r (i + 1))) := (show RowL _ _ _ _ by rw [mix_skip ht]; exact R4.out)
            have y0 := R4.out.cell hlt2
            rw [mix_at] at y0
            generalize trL f r i = v at *
            have hv0 : ((v : Int) == 0) = false := by rw [beq_eq_false_iff_ne]; omega
            clear NN SS R4
            go_loopg [9] 0 (fun gg s9 wx => s9 = .int .i64 0 ∧ wx = w4)
            case atStart => exact ⟨rfl, rfl⟩
            case round =>
              obtain ⟨rfl, hw⟩ := hrel
              obtain rfl := hw.symm
              by_cases hkl : 0 < R2.length
              · have hd : decide ((0 : Int) < (R2.length : Int)) = true := by simp; omega
                have hd2 : decide (0 < R2.length) = true := by simp; omega
                go_wp2_with fail
                go_roundg (G2 - 1)
                case measure => omega
                case rel => exact ⟨i + 1, by omega, by omega, by go_num, R9.out, F4.out⟩
              · have hd : decide ((0 : Int) < (R2.length : Int)) = false := decide_eq_false (by omega)
                have hd2 : decide (0 < R2.length) = false := decide_eq_false hkl
                go_wp2_with fail
                go_roundg (G2 - 1)
                case measure => omega
                case rel => exact ⟨i + 1, by omega, by omega, by go_num, R9.out, F4.out⟩
        · have hin : i = n := by omega
          have R9 : Hid (RowL wr bl n (trL f (r + 1))) := (show RowL _ _ _ _ from World.rowIs.congr RR.out fun q hq => by rw [hin, mix_full f r n q hq])
          clear hin
          go_wp2_with fail
          go_roundg (G1 - 1)
          case measure => omega
          case rel => exact ⟨r + 1, by omega, by omega, by omega, by go_num, R9.out, FF.out⟩
    · have R9 : Hid (RowL wr bl n (fun i => f (i + 1))) := (show RowL _ _ _ _ from World.rowIs.congr RR.out fun q hq => by
        have h9 : f (q + 1) ≤ r := Nat.le_trans (DL.out (q + 1)) (by omega)
        show Value.int _ _ = Value.int _ _
        rw [tr_all (i := q) h9])
      go_wp2_with fail
      go_ret
      exact ⟨bl, rfl, R9.out, hwb, below_frm B0.out FF.out (fun j hj => by omega)⟩
end Go.Proofs.Ytiocfnpfmilkgaa
