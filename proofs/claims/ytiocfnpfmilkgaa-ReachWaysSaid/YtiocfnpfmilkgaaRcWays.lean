/- ReachWays: a way leads by slots from the root to the object, with no object twice; there is one just if the object can be reached; none has fewer objects by one holder: for any graph, root and object. Conditions: none but the form's own reach. -/
import Derived.Test.YtiocfnpfmilkgaaRcLawW
import Derived.Test.YtiocfnpfmilkgaaRcWaysM
import Derived.Test.YtiocfnpfmilkgaaLawPost
import Derived.ProofKit
import Derived.BigQuiet
import Derived.Deep.LoopGhost
import Derived.Deep.DeepCutAuto
import Derived.Deep.RegionHeld3
namespace Go.Proofs.Ytiocfnpfmilkgaa.reachWays
set_option maxRecDepth 20000
open Go.ChangeShapes Go.WideShapes Go.ChangeAt Go.RowKit Go.Maps Go.Sort

theorem open_value {H : Type} {enc : TypeId × Value → H} {w : World} {base : Nat} {spare : Nat → Bool} {held : Bool} {r : Reach} {b0 : Nat} {v : Value} {d : DataW H} {p : List MemPlace} (hv : Value.okWide Try.prog w r b0 24 v) (h : DataW.Trod enc Try.prog w base spare held 24 v d p) :
    ∃ k : Int × Int, v = vV k := by
  obtain ⟨cs, rfl, hsz⟩ := okWide_struct Try.underlying24 hv
  obtain ⟨c0, c1, rfl⟩ := Joins.array2 (hsz.trans valCells)
  obtain ⟨fuel, hf⟩ := h
  have hf : DataW.trod enc Try.prog w base spare held fuel 24 [c0, c1] = some (d, p) := by simpa [Value.cells] using hf
  obtain ⟨xs, m, _, _, _, hxl, hff⟩ := DataW.trod_struct Try.underlying24 hf
  match xs, hxl with
  | [y0, y1], _ =>
    have g0 := hff 0 _ rfl
    have g1 := hff 1 _ rfl
    have c0 : Try.prog.cellsOf 3 = 1 := by kernel_rfl
    have c1 : Try.prog.cellsOf 2 = 1 := by kernel_rfl
    simp [c0, c1] at g0 g1
    obtain ⟨a, e0, _, _⟩ := DataW.trod_int Try.underlying3 g0
    obtain ⟨b, e1, _, _⟩ := DataW.trod_int Try.underlying2 g1
    injection e0 with e0
    injection e1 with e1
    exact ⟨(a, b), by rw [e0, e1]⟩
theorem own_boxed2 {w : World} {A : Option Addr} {c : Nat} {g : List OB} (hg : GAtC w A g) (hn : g.length * 64 ≤ 140737488355328) (rk rn : Int) :
    Calls Try.prog 27 #[gV A g.length c] ((w.alloc (.cells #[.slice A g.length c] 41 (0, 0))).alloc (.cells #[.int .i64 rk, .int .i64 rn] 24 (0, 0))) fun e w1 => ∃ C k, e = .returned (gV C (ownG g).length k) ∧
      (GAt (w1.setCell ⟨w.heap.size, 0, none⟩ (.slice C (ownG g).length k)) C (ownG g) ∧ Below w.heap.size w (w1.setCell ⟨w.heap.size, 0, none⟩ (.slice C (ownG g).length k)) ∧ (w1.setCell ⟨w.heap.size, 0, none⟩ (.slice C (ownG g).length k)).cell? ⟨w.heap.size, 0, none⟩ = some (.slice C (ownG g).length k) ∧
        (w1.setCell ⟨w.heap.size, 0, none⟩ (.slice C (ownG g).length k)).cell? ⟨w.heap.size + 1, 0, none⟩ = some (.int .i64 rk) ∧ (w1.setCell ⟨w.heap.size, 0, none⟩ (.slice C (ownG g).length k)).cell? ⟨w.heap.size + 1, 1, none⟩ = some (.int .i64 rn)) ∧
      w1.cell? ⟨w.heap.size, 0, none⟩ = some (.slice A g.length c) ∧ w1.frozen? ⟨w.heap.size, 0, none⟩ = false := by
  have hs : ((w.alloc (.cells #[.slice A g.length c] 41 (0, 0))).alloc (.cells #[.int .i64 rk, .int .i64 rn] 24 (0, 0))).heap.size = w.heap.size + 2 := by simp
  refine (own_any (c := c) (hg.below (((Below.refl _ _).alloc (Nat.le_refl _) _).alloc (by simp) _)) hn).mono ?_
  rintro e w1 ⟨C, k, rfl, h1, h2⟩
  have hlt : w.heap.size + 1 < w1.heap.size := by have := h2.size; omega
  have h3 := below_box h2
  have c0 : w1.cell? ⟨w.heap.size, 0, none⟩ = some (.slice A g.length c) := boxed h3 (j := 0) rfl
  have f0 : w1.frozen? ⟨w.heap.size, 0, none⟩ = false := (h3.frozen (p := ⟨w.heap.size, 0, none⟩) (by show w.heap.size < _; simp)).trans (by simp [go_sem])
  have d0 : w1.cell? ⟨w.heap.size + 1, 0, none⟩ = some (.int .i64 rk) := by have := boxed h2 (j := 0) (v := .int .i64 rk) rfl; simpa using this
  have d1 : w1.cell? ⟨w.heap.size + 1, 1, none⟩ = some (.int .i64 rn) := by have := boxed h2 (j := 1) (v := .int .i64 rn) rfl; simpa using this
  refine ⟨C, k, rfl, ⟨(h1.set (p := ⟨w.heap.size, 0, none⟩) (by show w.heap.size < _; omega) _).at, (below_box h3).setCell (Nat.le_refl _) _, World.cell?_setCell_same _ _ _ c0, ?_, ?_⟩, c0, f0⟩
  · rw [World.cell?_setCell_far _ _ _ _ (show w.heap.size ≠ w.heap.size + 1 by omega)]; exact d0
  · rw [World.cell?_setCell_far _ _ _ _ (show w.heap.size ≠ w.heap.size + 1 by omega)]; exact d1
theorem held_keepQ {S : World → Prop} {w0 w1 w2 : World} (h : ∀ W, Below w0.heap.size w0 W → S W) (hs : Below w0.heap.size w0 w1) (hb : Below w1.heap.size w1 w2) : S w2 ∧ Below w0.heap.size w0 w2 :=
  ⟨h _ (hs.trans (hb.mono hs.size)), hs.trans (hb.mono hs.size)⟩
set_option maxHeartbeats 8000000 in
theorem walk (A : Option Addr) (c : Nat) (g : List OB) (r : Int × Int) (m : Int) (hz : g.length * 64 ≤ 140737488351232) (hl : -9223372036854775808 ≤ m) (hu : m ≤ 9223372036854775807) (w : World) (hg : GAtC w A g) :
    Calls Try.prog 9 #[.agg #[.slice A g.length c], vV r, .int .i64 m] w fun e w' => e = .returned (.bool true) ∧ Below w.heap.size w w' := by
  obtain ⟨rk, rn⟩ := r
  have OW := Lib.hid (own_boxed2 (c := c) hg (by omega) rk rn)
  have hN : (ownG g).length ≤ 40 := by rw [ownG_len]; omega
  have FR : Hid (∀ W C k B, GAt W C (ownG g) → PairsAt W B [(rk, rn)] → Calls Try.prog 29 #[gV C (ownG g).length k, .slice B 1 1] W (GivesI (intsOf (fromL (ownG g) [(rk, rn)] true)) W)) := fun W C k B h1 h2 => (From_any (d := 1) (l := [(rk, rn)]) h1 (by omega) (by simp) h2).mono fun e w' h => GivesI.of h
  have PA : Hid (∀ W C k x, GAt W C (ownG g) → -9223372036854775808 ≤ x → x ≤ 9223372036854775807 → Calls Try.prog 34 #[gV C (ownG g).length k, .agg #[.int .i64 rk, .int .i64 rn], .int .i64 x] W (GivesI (intsOf (pathI (ownG g) (rk, rn) x)) W)) := fun W C k x h h1 h2 => Path_any h (by omega) (own_held g) (rk, rn) x h1 h2
  have HO : Hid (∀ W C k, GAt W C (ownG g) → Calls Try.prog 40 #[gV C (ownG g).length k, .int .i64 m] W (GivesI (holdersL (ownG g) m) W)) := fun W C k h => Holders_any h (by omega) m
  have OS : Hid (∀ o ∈ ownG g, o.slots.length ≤ 40) := fun o ho => own_slots ho
  generalize ownG g = h at *
  have FL := Lib.hid (from_len h [(rk, rn)] true)
  have HLn : Hid ((holdersL h m).length ≤ h.length) := (show _ ≤ _ by
    unfold holdersL; split
    · rw [intsOf_len]; exact which_len _ _
    · simp)
  by_cases hp : pathI h (rk, rn) m = []
  · have NF := Lib.hid (path_none hp)
    have P1 : Hid (∀ W C k, GAt W C h → Calls Try.prog 34 #[gV C h.length k, .agg #[.int .i64 rk, .int .i64 rn], .int .i64 m] W (GivesI [] W)) := fun W C k h1 => by
      have := PA.out W C k m h1 hl hu
      rwa [hp] at this
    clear PA HO OS HLn hp
    generalize intsOf (fromL h [(rk, rn)] true) = F at *
    generalize h.length = n at *
    generalize g.length = ng at *
    go_enter Try.func9, Try.ntmps9
    go_upto_region 2 with (go_at_call 27; (with_reducible refine OW.out.mono ?_); rintro e w1 ⟨C, k, rfl, hV, y0, f0⟩; have HV := Lib.hid hV; clear hV)
    refine at_world (fun V => GAt V C h ∧ Below w.heap.size w V ∧ V.cell? ⟨w.heap.size, 0, none⟩ = some (.slice C n k) ∧ V.cell? ⟨w.heap.size + 1, 0, none⟩ = some (.int .i64 rk) ∧ V.cell? ⟨w.heap.size + 1, 1, none⟩ = some (.int .i64 rn)) HV.out ?_
    clear HV y0 f0
    rintro V ⟨hG, hb, c0, c1, c2⟩
    have BV := Lib.hid hb
    have G := Lib.hid hG
    have CX : Hid (∀ W, Below V.heap.size V W → W.cell? ⟨w.heap.size, 0, none⟩ = some (.slice C n k) ∧ W.cell? ⟨w.heap.size + 1, 0, none⟩ = some (.int .i64 rk) ∧ W.cell? ⟨w.heap.size + 1, 1, none⟩ = some (.int .i64 rn)) := fun W hW => ⟨(hW.cell (p := ⟨w.heap.size, 0, none⟩) (World.block_lt_of_cell? _ _ c0)).trans c0, (hW.cell (p := ⟨w.heap.size + 1, 0, none⟩) (World.block_lt_of_cell? _ _ c1)).trans c1, (hW.cell (p := ⟨w.heap.size + 1, 1, none⟩) (World.block_lt_of_cell? _ _ c2)).trans c2⟩
    have FL1 := FL.out
    clear hb hG
    go_wp2_with (first
      | (go_at_call 34; (with_reducible refine (P1.out _ C k G.out).mono ?_); rintro e w2 ⟨A2, p2, rfl, -, hb⟩; have B2 : Hid (Below V.heap.size V w2) := hb; have X2 := CX.out _ hb; obtain ⟨x0, x1, x2⟩ := X2; clear hb)
      | (go_at_call 29; (with_reducible refine (FR.out _ C k _ (G.out.below (B2.out.alloc B2.out.size _)) (by exact lit_root)).mono ?_); rintro e w3 ⟨A3, p3, rfl, i3, hb⟩; have I3 := Lib.hid i3; have B3 : Hid (Below V.heap.size V w3) := (B2.out.alloc B2.out.size _).trans (hb.mono (B2.out.alloc B2.out.size _).size); clear hb i3)
      | (go_at_call 38; (with_reducible refine (has_at (c := p3) I3.out F.length rfl (by omega) m false (decide_eq_false NF.out)).mono ?_); rintro e _ ⟨rfl, rfl⟩)
      | (go_at_call 33; (with_reducible refine (works_true _).mono ?_); rintro e w4 ⟨rfl, hb⟩; have B4 : Hid (Below V.heap.size V w4) := B3.out.trans (hb.mono B3.out.size); clear hb))
    go_ret
    exact ⟨rfl, BV.out.trans (B4.out.mono BV.out.size)⟩
  · obtain ⟨q0, ⟨l, hlP, hPl⟩, q2, q3, q4⟩ := path_facts hp
    have HD : Hid (∀ x ∈ holdersL h m, 1 ≤ x ∧ x ≤ h.length ∧ (0 < (intsOf (pathI h (rk, rn) x)).length → (intsOf (pathI h (rk, rn) m)).length ≤ (intsOf (pathI h (rk, rn) x)).length + 1)) := fun x hx => path_holder hp hx
    have PN : Hid (∀ x, (intsOf (pathI h (rk, rn) x)).length ≤ h.length) := fun x => by
      by_cases e : pathI h (rk, rn) x = []
      · rw [e]; exact Nat.zero_le _
      · exact (path_facts e).2.2.2.1
    have P1 : Hid (∀ W C k, GAt W C h → Calls Try.prog 34 #[gV C h.length k, .agg #[.int .i64 rk, .int .i64 rn], .int .i64 m] W (GivesI (intsOf (pathI h (rk, rn) m)) W)) := fun W C k h1 => PA.out W C k m h1 hl hu
    have P0 : Hid ((intsOf (pathI h (rk, rn) m))[0]? = some rn) := q0
    have PL : Hid ((intsOf (pathI h (rk, rn) m))[l]? = some m) := hPl
    have PP := Lib.hid q4
    have MF := Lib.hid q2
    have LT : Hid (∀ i o, h[i]? = some o → i < h.length) := fun i o hi => (List.getElem?_eq_some_iff.1 hi).1
    clear q0 hPl q4 q2 hp
    generalize intsOf (pathI h (rk, rn) m) = P at *
    generalize intsOf (fromL h [(rk, rn)] true) = F at *
    generalize holdersL h m = H at *
    generalize h.length = n at *
    generalize g.length = ng at *
    generalize hnP : P.length = nP at *
    have HNP := Lib.hid hnP
    have FL1 := FL.out
    have HL1 := HLn.out
    go_enter Try.func9, Try.ntmps9
    go_upto_region 2 with (go_at_call 27; (with_reducible refine OW.out.mono ?_); rintro e w1 ⟨C, k, rfl, hV, y0, f0⟩; have HV := Lib.hid hV; clear hV)
    refine at_world (fun V => GAt V C h ∧ Below w.heap.size w V ∧ V.cell? ⟨w.heap.size, 0, none⟩ = some (.slice C n k) ∧ V.cell? ⟨w.heap.size + 1, 0, none⟩ = some (.int .i64 rk) ∧ V.cell? ⟨w.heap.size + 1, 1, none⟩ = some (.int .i64 rn)) HV.out ?_
    clear HV y0 f0
    rintro V ⟨hG, hb, c0, c1, c2⟩
    have BV := Lib.hid hb
    have G := Lib.hid hG
    have GB : Hid (∀ W, Below V.heap.size V W → GAt W C h) := fun W hW => G.out.below hW
    have CX : Hid (∀ W, Below V.heap.size V W → W.cell? ⟨w.heap.size, 0, none⟩ = some (.slice C n k) ∧ W.cell? ⟨w.heap.size + 1, 0, none⟩ = some (.int .i64 rk) ∧ W.cell? ⟨w.heap.size + 1, 1, none⟩ = some (.int .i64 rn)) := fun W hW => ⟨(hW.cell (p := ⟨w.heap.size, 0, none⟩) (World.block_lt_of_cell? _ _ c0)).trans c0, (hW.cell (p := ⟨w.heap.size + 1, 0, none⟩) (World.block_lt_of_cell? _ _ c1)).trans c1, (hW.cell (p := ⟨w.heap.size + 1, 1, none⟩) (World.block_lt_of_cell? _ _ c2)).trans c2⟩
    have hnz : ((nP : Int) == 0) = false := by rw [beq_eq_false_iff_ne]; omega
    have hnz2 : (nP == 0) = false := by rw [beq_eq_false_iff_ne]; omega
    clear hb hG hnP
    go_upto_region 6 with (first
      | (go_at_call 34; (with_reducible refine (P1.out _ C k G.out).mono ?_); rintro e w2 ⟨A2, p2, rfl, i2, hb⟩; rw [HNP.out]; have I2 := Lib.hid i2; have B2 : Hid (Below V.heap.size V w2) := hb; have X2 := CX.out _ hb; obtain ⟨x0, x1, x2⟩ := X2; clear hb i2)
      | (go_at_call 29; (with_reducible refine (FR.out _ C k _ (G.out.below (B2.out.alloc B2.out.size _)) (by exact lit_root)).mono ?_); rintro e w3 ⟨A3, p3, rfl, i3, hb⟩; have I3 := Lib.hid i3; have IP3 : Hid (IntsAt w3 A2 P) := (I2.out.below ((Below.refl _ _).alloc (Nat.le_refl _) _)).below hb; have B3 : Hid (Below V.heap.size V w3) := (B2.out.alloc B2.out.size _).trans (hb.mono (B2.out.alloc B2.out.size _).size); clear hb i3))
    clear x0 x1 x2 I2 c0 c1 c2
    obtain ⟨x0, x1, x2⟩ := CX.out _ B3.out
    obtain ⟨ap, e, hal, hcp0⟩ := IP3.out 0 rn P0.out
    subst e
    obtain ⟨ap', e, _, hcpl⟩ := IP3.out l m PL.out
    injection e with e
    subst e
    have hcp00 : w3.cell? ap = some (.int .i64 rn) := by simpa [Addr.add] using hcp0
    have hcast : (nP : Int) - 1 = (l : Int) := by omega
    have hwr : IntKind.i64.wrap (l : Int) = (l : Int) := IntWalk.i64_in _ (by omega)
    have hll : (l : Int) < (nP : Int) := by omega
    have hl0 : (0 : Int) < (nP : Int) := by omega
    have HX : Hid (∀ a : Nat, Calls Try.prog 38 #[.slice A3 F.length p3, .int .i64 m] (w3.drewN a) fun e w' => e = .returned (.bool true) ∧ w' = w3.drewN a) := fun a => has_at (I3.out.below (below_drewN (Below.refl _ _) _)) F.length rfl (by omega) m true (decide_eq_true MF.out)
    go_quiet ((go_at_call 38; exact Calls.quiet_of_same (HX.out _)))
    go_wp2_with fail
    clear hcp0 hcp00 hcpl hcast hwr hll HX x0 x1 x2
    go_loopg [9] nP (fun gg s9 wr => ∃ i : Nat, i ≤ nP ∧ nP - i ≤ gg ∧ s9 = .int .i64 i ∧ Hid (Below V.heap.size V wr) ∧ Hid (IntsAt wr (some ap) P))
    case atStart => exact ⟨0, Nat.zero_le _, by omega, rfl, (show Below _ _ _ from below_drewN B3.out _), (show IntsAt _ _ _ from IP3.out.below (below_drewN (Below.refl _ _) _))⟩
    case round =>
      clear B3 IP3 I3
      obtain ⟨i, hi, hgg, rfl, BW, IP⟩ := hrel
      by_cases hlt : i < nP
      · obtain ⟨W1, rfl⟩ : ∃ W1, W1 = wr := ⟨_, rfl⟩
        obtain ⟨G1, rfl⟩ : ∃ G1, G1 = gk := ⟨_, rfl⟩
        go_wp2_with fail
        go_loopg [10] nP (fun gg s10 wr => ∃ q : Nat, i + 1 ≤ q ∧ q ≤ nP ∧ nP - q ≤ gg ∧ s10 = .int .i64 q ∧ Hid (Below V.heap.size V wr) ∧ Hid (IntsAt wr (some ap) P))
        case atStart => exact ⟨i + 1, Nat.le_refl _, by omega, by omega, by go_num, BW.out, IP.out⟩
        case round =>
          clear BW IP
          obtain ⟨q, hq1, hq2, hg2, rfl, BX, IX⟩ := hrel
          obtain ⟨x0, -, -⟩ := CX.out _ BX.out
          by_cases hlt2 : q < nP
          · obtain ⟨x, hx⟩ : ∃ x, P[i]? = some x := ⟨_, List.getElem?_eq_getElem (by have := HNP.out; omega)⟩
            obtain ⟨y, hy⟩ : ∃ y, P[q]? = some y := ⟨_, List.getElem?_eq_getElem (by have := HNP.out; omega)⟩
            obtain ⟨hne, j, o, hcast, ho, hdec⟩ := PP.out i q x y (by omega) hx hy
            obtain ⟨ap1, e, _, hcx⟩ := IX.out i x hx
            injection e with e
            subst e
            obtain ⟨ap2, e, _, hcy⟩ := IX.out q y hy
            injection e with e
            subst e
            obtain ⟨W2, rfl⟩ : ∃ W2, W2 = wr := ⟨_, rfl⟩
            have hjn : j < n := LT.out j o ho
            obtain ⟨a, sA, sc, e, hala, ⟨o0, o1, o2, o3, o4⟩, hs⟩ := (GB.out W2 BX.out) j o ho
            subst e
            have hl2 : (a.add (j * 5)).block < W2.heap.size := by rw [Go.ChangeShapes.block_add]; exact hala
            have hwr : IntKind.i64.wrap (j : Int) = (j : Int) := IntWalk.i64_in _ (by omega)
            have hleni : (i : Int) < (nP : Int) := by omega
            have hlenq : (q : Int) < (nP : Int) := by omega
            have HR : Hid (∀ W, Below W2.heap.size W2 W → Calls Try.prog 39 #[.slice sA o.slots.length sc] W (GivesI (refsL o.slots) W)) := fun W hW => (Refs_any sA sc o.slots W (by have := hs.2; omega) (pairs_below hs.1 hW)).mono fun e w' h => GivesI.of h
            have hR2 : (refsL o.slots).length ≤ 40 := Nat.le_trans (refsL_len _) (OS.out o (List.mem_of_getElem? ho))
            have KP : Hid (∀ W, Below W2.heap.size W2 W → (W.cell? ⟨w.heap.size, 0, none⟩ = some (.slice (some a) n k) ∧ W.cell? (ap.add i) = some (.int .i64 x) ∧ W.cell? (ap.add q) = some (.int .i64 y) ∧ W.cell? ⟨(a.add (j * 5)).block, (a.add (j * 5)).off + 2, none⟩ = some (.slice sA o.slots.length sc)) ∧ Below W2.heap.size W2 W) := fun W hW =>
              ⟨⟨(hW.cell (p := ⟨w.heap.size, 0, none⟩) (World.block_lt_of_cell? _ _ x0)).trans x0, (hW.cell (World.block_lt_of_cell? _ _ hcx)).trans hcx, (hW.cell (World.block_lt_of_cell? _ _ hcy)).trans hcy, (hW.cell (p := ⟨(a.add (j * 5)).block, (a.add (j * 5)).off + 2, none⟩) hl2).trans o2⟩, hW⟩
            clear o0 o1 o2 o3 o4 hx hy ho hs hcx hcy x0
            generalize refsL o.slots = R2 at *
            have HH : Hid (∀ W A8 c8, IntsAt W A8 R2 → Calls Try.prog 38 #[.slice A8 R2.length c8, .int .i64 y] W fun e w' => e = .returned (.bool (decide (q = i + 1))) ∧ Below W.heap.size W w') := fun W A8 c8 h8 => (has_at h8 R2.length rfl (by omega) y _ hdec).mono fun e w' ⟨h1, h2⟩ => ⟨h1, h2 ▸ Below.refl _ _⟩
            clear hdec
            go_upto_region 14 with (fail)
            go_region_held3 (fun w' => (w'.cell? ⟨w.heap.size, 0, none⟩ = some (.slice (some a) n k) ∧ w'.cell? (ap.add i) = some (.int .i64 x) ∧ w'.cell? (ap.add q) = some (.int .i64 y) ∧ w'.cell? ⟨(a.add (j * 5)).block, (a.add (j * 5)).off + 2, none⟩ = some (.slice sA o.slots.length sc)) ∧ Below W2.heap.size W2 w') (first | exact KP.out _ ((Below.refl _ _).drew) | exact KP.out _ (keep_call (by assumption) (by assumption)) | exact KP.out _ (by assumption))
              (first
              | (go_at_call 39; (with_reducible refine (HR.out _ (And.right (by assumption))).mono ?_); rintro e w8 ⟨A8, c8, rfl, i8, hb8⟩)
              | (go_at_call 38; (with_reducible refine (HH.out w8 A8 c8 i8).mono ?_); rintro e w9 ⟨rfl, hb9⟩))
            have HV9 : (w9.cell? ⟨w.heap.size, 0, none⟩ = some (.slice (some a) n k) ∧ w9.cell? (ap.add i) = some (.int .i64 x) ∧ w9.cell? (ap.add q) = some (.int .i64 y) ∧ w9.cell? ⟨(a.add (j * 5)).block, (a.add (j * 5)).off + 2, none⟩ = some (.slice sA o.slots.length sc)) ∧ Below W2.heap.size W2 w9 := by assumption
            have B9 : Hid (Below V.heap.size V w9) := BX.out.trans (HV9.2.mono BX.out.size)
            have I9 : Hid (IntsAt w9 (some ap) P) := IX.out.below HV9.2
            obtain ⟨⟨-, k1, k2, -⟩, -⟩ := HV9
            have hwi : IntKind.i64.wrap ((i : Int) + 1) = (i : Int) + 1 := IntWalk.i64_in _ (by omega)
            clear KP HR HH i8 hb8 hb9 BX IX hl2 hcast hwr hala
            by_cases hk : q = i + 1
            · have hke : ((q : Int) == (i : Int) + 1) = true := by rw [beq_iff_eq]; omega
              rw [decide_eq_true hk]
              clear hk
              go_wp2_with fail
              go_quiet (fail)
              go_wp2_with fail
              clear hke hwi k1 k2
              go_roundg (nP - (q + 1))
              case measure => omega
              case rel => exact ⟨q + 1, by omega, by omega, by omega, by go_num, (show Below _ _ _ from below_drewN B9.out _), (show IntsAt _ _ _ from I9.out.below (below_drewN (Below.refl _ _) _))⟩
            · have hke : ((q : Int) == (i : Int) + 1) = false := by rw [beq_eq_false_iff_ne]; omega
              rw [decide_eq_false hk]
              clear hk
              go_wp2_with fail
              go_quiet (fail)
              go_wp2_with fail
              clear hke hwi k1 k2
              go_roundg (nP - (q + 1))
              case measure => omega
              case rel => exact ⟨q + 1, by omega, by omega, by omega, by go_num, (show Below _ _ _ from below_drewN B9.out _), (show IntsAt _ _ _ from I9.out.below (below_drewN (Below.refl _ _) _))⟩
          · go_wp2_with fail
            go_roundg (G1 - 1)
            case measure => omega
            case rel => exact ⟨i + 1, by omega, by omega, by go_num, BX.out, IX.out⟩
      · obtain ⟨x0, -, -⟩ := CX.out _ BW.out
        go_wp2_with (go_at_call 40; (with_reducible refine (HO.out _ C k (GB.out _ BW.out)).mono ?_); rintro e w6 ⟨A6, c6, rfl, i6, hb⟩; have I6 := Lib.hid i6; have B6 : Hid (Below V.heap.size V w6) := BW.out.trans (hb.mono BW.out.size); clear hb i6)
        clear x0
        go_loopg [13] H.length (fun gg s13 wr => ∃ q : Nat, q ≤ H.length ∧ H.length - q ≤ gg ∧ s13 = .int .i64 q ∧ Hid (Below V.heap.size V wr) ∧ Hid (IntsAt wr A6 H))
        case atStart => exact ⟨0, Nat.zero_le _, by omega, rfl, B6.out, I6.out⟩
        case round =>
          clear B6 I6 BW IP hlt hi hgg
          obtain ⟨q, hq, hg2, rfl, BX, IX⟩ := hrel
          have FIN : Hid (∀ W, Calls Try.prog 33 #[] W fun e w' => e = .returned (.bool true) ∧ Below W.heap.size W w') := works_true
          by_cases hlt : q < H.length
          · have hd1 : decide ((q : Int) < (H.length : Int)) = true := by simp; omega
            by_cases h1n : 1 < nP
            · have hd2 : decide ((1 : Int) < (nP : Int)) = true := by simp; omega
              have hd3 : decide (1 < nP) = true := by simp; omega
              obtain ⟨x, hx⟩ : ∃ x, H[q]? = some x := ⟨_, List.getElem?_eq_getElem hlt⟩
              obtain ⟨hx1, hx2, hx3⟩ := HD.out x (List.mem_of_getElem? hx)
              obtain ⟨ah, e, _, hcx⟩ := IX.out q x hx
              subst e
              obtain ⟨W2, rfl⟩ : ∃ W2, W2 = wr := ⟨_, rfl⟩
              have hleq : (q : Int) < (H.length : Int) := by omega
              have KP : Hid (∀ W, Below W2.heap.size W2 W → (W.cell? ⟨w.heap.size, 0, none⟩ = some (.slice C n k) ∧ W.cell? ⟨w.heap.size + 1, 0, none⟩ = some (.int .i64 rk) ∧ W.cell? ⟨w.heap.size + 1, 1, none⟩ = some (.int .i64 rn) ∧ W.cell? (ah.add q) = some (.int .i64 x)) ∧ Below W2.heap.size W2 W) := fun W hW => by
                obtain ⟨z0, z1, z2⟩ := CX.out W (BX.out.trans (hW.mono BX.out.size))
                exact ⟨⟨z0, z1, z2, (hW.cell (World.block_lt_of_cell? _ _ hcx)).trans hcx⟩, hW⟩
              have HQ : Hid (∀ W, Below W2.heap.size W2 W → Calls Try.prog 34 #[gV C n k, .agg #[.int .i64 rk, .int .i64 rn], .int .i64 x] W (GivesI (intsOf (pathI h (rk, rn) x)) W)) := fun W hW => PA.out W C k x (GB.out W (BX.out.trans (hW.mono BX.out.size))) (by omega) (by omega)
              have hq3 : (intsOf (pathI h (rk, rn) x)).length ≤ n := PN.out x
              clear hx hcx hx1 hx2
              generalize intsOf (pathI h (rk, rn) x) = Q at *
              go_upto_region 21 with (fail)
              go_region_held3 (fun w' => (w'.cell? ⟨w.heap.size, 0, none⟩ = some (.slice C n k) ∧ w'.cell? ⟨w.heap.size + 1, 0, none⟩ = some (.int .i64 rk) ∧ w'.cell? ⟨w.heap.size + 1, 1, none⟩ = some (.int .i64 rn) ∧ w'.cell? (ah.add q) = some (.int .i64 x)) ∧ Below W2.heap.size W2 w') (first | exact KP.out _ ((Below.refl _ _).drew) | exact KP.out _ (keep_call (by assumption) (by assumption)) | exact KP.out _ (by assumption))
                ((go_at_call 34; (with_reducible refine (HQ.out _ (And.right (by assumption))).mono ?_); rintro e w8 ⟨A8, c8, rfl, i8, hb8⟩))
              have HV8 : (w8.cell? ⟨w.heap.size, 0, none⟩ = some (.slice C n k) ∧ w8.cell? ⟨w.heap.size + 1, 0, none⟩ = some (.int .i64 rk) ∧ w8.cell? ⟨w.heap.size + 1, 1, none⟩ = some (.int .i64 rn) ∧ w8.cell? (ah.add q) = some (.int .i64 x)) ∧ Below W2.heap.size W2 w8 := by assumption
              have B8 : Hid (Below V.heap.size V w8) := BX.out.trans (HV8.2.mono BX.out.size)
              have I8 : Hid (IntsAt w8 (some ah) H) := IX.out.below HV8.2
              clear HV8 KP HQ i8 hb8 BX IX hd1 hd2 hd3
              generalize Q.length = lq at *
              by_cases hp0 : 0 < lq
              · have e1 : decide (0 < lq) = true := by simp; omega
                have e2 : decide ((lq : Int) + 1 < (nP : Int)) = false := by simp; have := hx3 hp0; omega
                clear hx3
                go_wp2_with fail
                go_roundg (H.length - (q + 1))
                case measure => omega
                case rel => exact ⟨q + 1, by omega, by omega, by go_num, B8.out, I8.out⟩
              · have e1 : decide (0 < lq) = false := by simp; omega
                clear hx3
                go_wp2_with fail
                go_roundg (H.length - (q + 1))
                case measure => omega
                case rel => exact ⟨q + 1, by omega, by omega, by go_num, B8.out, I8.out⟩
            · have hd2 : decide ((1 : Int) < (nP : Int)) = false := by simp; omega
              have hd3 : decide (1 < nP) = false := by simp; omega
              go_wp2_with (go_at_call 33; (with_reducible refine (FIN.out _).mono ?_); rintro e w11 ⟨rfl, hb⟩; have B11 : Hid (Below V.heap.size V w11) := BX.out.trans (hb.mono BX.out.size); clear hb)
              go_ret
              exact ⟨rfl, BV.out.trans (B11.out.mono BV.out.size)⟩
          · have hd1 : decide ((q : Int) < (H.length : Int)) = false := by simp; omega
            go_wp2_with (go_at_call 33; (with_reducible refine (FIN.out _).mono ?_); rintro e w11 ⟨rfl, hb⟩; have B11 : Hid (Below V.heap.size V w11) := BX.out.trans (hb.mono BX.out.size); clear hb)
            go_ret
            exact ⟨rfl, BV.out.trans (B11.out.mono BV.out.size)⟩
theorem own : ownKnob Try.prog.godebug = none := by kernel_rfl
theorem laidOut : laidOutB Try.prog = true := by kernel_rfl
set_option maxRecDepth 100000 in
theorem contract (H : Type) (enc : TypeId × Value → H) (W : World) (base : Nat) (args : Array Value) (ds gs : List (DataW H)) (before : List MemPlace)
    (hval : ∀ (j : Nat) t v, Try.f9.params[j]? = some t → args[j]? = some v → Value.okWide Try.prog W .any base t v)
    (hW : DataW.Whole enc Try.prog Try.f9.params.toList Rows.reachWaysSpec.vars false W args.toList ds gs before)
    (hsz0 : (DataW.weightsEach Try.prog (Try.f9.params.toList ++ Rows.reachWaysSpec.plain.varTypes Try.prog) (ds ++ gs)).all (· ≤ reachBytes) = true) :
    Calls Try.prog 9 args W fun e W' => ∃ v, e = .returned v ∧ Rows.reachWaysSpec.post enc Try.prog Try.f9 false true false false W args v W' := by
  have hW' := hW
  obtain ⟨p, q, hA0, hV, rfl, hfz, hnd⟩ := hW
  have hA : DataW.TrodAll enc Try.prog W 0 (fun _ => true) true Try.f9.params.toList args.toList ds p := hA0
  have hsz := hsz0
  rw [Try.params9] at hA hval hsz
  obtain ⟨v0, vs0, d0, ds0, p0, q0, hargs, rfl, rfl, h0, r0⟩ := trodAll_cons hA
  obtain ⟨v1, vs1, d1, ds1, p1, q1, rfl, rfl, rfl, h1, r1⟩ := trodAll_cons r0
  obtain ⟨v2, vs2, d2, ds2, p2, q2, rfl, rfl, rfl, h2, r2⟩ := trodAll_cons r1
  obtain ⟨rfl, rfl, rfl⟩ := trodAll_nil r2
  obtain rfl : args = #[v0, v1, v2] := by cases args; simp_all
  obtain ⟨rfl, rfl⟩ := trodVars_none hV
  obtain ⟨A0, c0, l0, rfl, w0, z0⟩ := open_graph_c (hval 0 41 v0 rfl rfl) h0 (size_of hsz (j := 0) rfl rfl)
  obtain ⟨k1, rfl⟩ := open_value (hval 1 24 v1 rfl rfl) h1
  obtain ⟨a2, rfl, rfl, rfl, w2⟩ := open_int Try.underlying3 (hval 2 3 v2 rfl rfl) h2
  obtain ⟨l2, u2⟩ := of_wf_i64 w2
  clear hA0 hsz hsz0
  simp only [List.append_nil] at hW'
  refine (walk A0 c0 l0 k1 a2 z0 l2 u2 W w0).mono fun e W' ⟨he, hb⟩ => ?_
  subst he
  exact ⟨_, rfl, law_post laidOut (by kernel_rfl) (by kernel_rfl) Try.underlying4 hW' hb rfl⟩

set_option maxRecDepth 100000 in
theorem lifted (os : Os) (started : os.Started) (H : Type) (enc : TypeId × Value → H) :
    ReturnsInHanded {} Try.checked os 9 .any (Rows.reachWaysSpec.pre6 enc Try.prog Try.f9 Rows.reachWaysRow.domain false) (Rows.reachWaysSpec.post enc Try.prog Try.f9 false true false false) := by
  refine returnsInHanded_of_change_sized (C := Try.checked) own started (by kernel_rfl) Try.func9
    (ChangeSpec.witness6 (enc := enc) (C := Try.checked) false ⟨#[], #[.agg #[.slice none 0 0], .agg #[.int .i64 0, .int .i64 0], .int .i64 0], []⟩ 8 (by kernel_rfl) (by kernel_rfl) (by kernel_rfl) (by kernel_rfl)) ?_
  intro W base args ds gs before hval hW _ hsz _
  exact contract H enc W base args ds gs before hval hW hsz
/-- The row. -/
theorem holds : Rows.ReachWaysSaid :=
  OpenClaim.holds_of_wide 9 Try.f9 rfl rfl rfl rfl rfl rfl rfl ⟨rfl, rfl, rfl, rfl, rfl⟩ rfl rfl rfl rfl rfl (by kernel_rfl) Try.func9 (by kernel_rfl)
    (of_decide_eq_true (by kernel_rfl)) (by unfold Func.isWrapper; first | (rw [if_pos (by decide +kernel)]; kernel_rfl) | (rw [if_neg (by decide +kernel)]; exact ⟨rfl, rfl⟩))
    (fun os started H enc _ => lifted os started H enc)
end Go.Proofs.Ytiocfnpfmilkgaa.reachWays
