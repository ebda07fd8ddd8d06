/- ReachCloses: what can be reached has the roots' objects and all that its slots hold, and of each a way leads from a root; what can't be is all else: for any graph, any roots. Conditions: none but the form's own reach. -/
import Derived.Test.YtiocfnpfmilkgaaRcLawW
import Derived.Test.YtiocfnpfmilkgaaLawPost
import Derived.ProofKit
import Derived.BigQuiet
import Derived.Deep.LoopGhost
import Derived.Deep.DeepCutAuto
import Derived.Deep.RegionHeld3
namespace Go.Proofs.Ytiocfnpfmilkgaa.reachCloses
set_option maxRecDepth 20000
open Go.ChangeShapes Go.WideShapes Go.ChangeAt Go.RowKit Go.Maps Go.Sort

set_option maxHeartbeats 8000000 in
theorem walk (A : Option Addr) (c : Nat) (g : List OB) (B : Option Addr) (d : Nat) (more : List (Int × Int)) (hz : g.length * 64 ≤ 140737488351232) (hm : more.length * 16 ≤ 140737488351232) (hd : more.length ≤ d) (w : World) (hg : GAtC w A g) (hB : PairsAt w B more) :
    Calls Try.prog 8 #[.agg #[.slice A g.length c], .slice B more.length d] w fun e w' => e = .returned (.bool true) ∧ Below w.heap.size w w' := by
  have OW := Lib.hid (own_boxed (c := c) hg (by omega))
  have BR := Lib.hid (pairs_take hB 40)
  have hN : (ownG g).length ≤ 40 := by rw [ownG_len]; omega
  have hR : (more.take 40).length ≤ 40 := List.length_take_le _ _
  have hmin : min ((more.length : Nat) : Int) 40 = ((more.take 40).length : Int) := by rw [List.length_take]; omega
  have hmd : (more.take 40).length ≤ d := by rw [List.length_take]; omega
  have FR : Hid (∀ W C k, GAt W C (ownG g) → PairsAt W B (more.take 40) → Calls Try.prog 29 #[gV C (ownG g).length k, .slice B (more.take 40).length d] W (GivesI (intsOf (fromL (ownG g) (more.take 40) true)) W)) := fun W C k h1 h2 => (From_any h1 (by omega) (by omega) h2).mono fun e w' h => GivesI.of h
  have LO : Hid (∀ W C k, GAt W C (ownG g) → PairsAt W B (more.take 40) → Calls Try.prog 31 #[gV C (ownG g).length k, .slice B (more.take 40).length d] W (GivesI (intsOf (fromL (ownG g) (more.take 40) false)) W)) := fun W C k h1 h2 => (Lost_any h1 (by omega) (by omega) h2).mono fun e w' h => GivesI.of h
  have RF : Hid (∀ W, PairsAt W B (more.take 40) → Calls Try.prog 39 #[.slice B (more.take 40).length d] W (GivesI (refsL (more.take 40)) W)) := fun W h => (Refs_any B d _ W (by omega) h).mono fun e w' h => GivesI.of h
  have CK : Hid (∀ W C k, GAt W C (ownG g) → Calls Try.prog 36 #[gV C (ownG g).length k] W fun e w' => e = .returned (.bool (checkB (ownG g))) ∧ Below W.heap.size W w') := fun W C k h => Check_any h (by omega)
  have PA : Hid (∀ W C k s m, GAt W C (ownG g) → -9223372036854775808 ≤ m → m ≤ 9223372036854775807 → Calls Try.prog 34 #[gV C (ownG g).length k, .agg #[.int .i64 6, .int .i64 s], .int .i64 m] W (GivesI (intsOf (pathI (ownG g) (6, s) m)) W)) := fun W C k s m h h1 h2 => Path_any h (by omega) (own_held g) (6, s) m h1 h2
  have OS : Hid (∀ o ∈ ownG g, o.slots.length ≤ 40) := fun o ho => own_slots ho
  have RL : Hid ((refsL (more.take 40)).length ≤ 40) := Nat.le_trans (refsL_len _) hR
  generalize ownG g = h at *
  have FL := Lib.hid (from_len h (more.take 40) true)
  have LL := Lib.hid (from_len h (more.take 40) false)
  have FS := Lib.hid (from_rise h (more.take 40) true)
  have LS := Lib.hid (from_rise h (more.take 40) false)
  clear hg hB hm hd
  cases hc : checkB h with
  | false =>
    rw [show fromL h (more.take 40) true = [] by unfold fromL; rw [hc]; rfl] at FR
    rw [show fromL h (more.take 40) false = [] by unfold fromL; rw [hc]; rfl] at LO
    rw [hc] at CK
    clear hc FL LL FS LS PA RF OS RL
    generalize more.take 40 = rs at *
    generalize h.length = n at *
    generalize more.length = nm at *
    generalize rs.length = m at *
    generalize g.length = ng at *
    go_enter Try.func8, Try.ntmps8
    go_upto_region 3 with (go_at_call 27; (with_reducible refine OW.out.mono ?_); rintro e w1 ⟨C, k, rfl, hV, y0, f0⟩; have HV := Lib.hid hV; clear hV)
    refine at_world (fun V => GAt V C h ∧ Below w.heap.size w V ∧ V.cell? ⟨w.heap.size, 0, none⟩ = some (.slice C n k)) HV.out ?_
    clear HV y0 f0
    rintro V ⟨hG, hb, c0⟩
    have BV := Lib.hid hb
    have G := Lib.hid hG
    have zV := World.block_lt_of_cell? V _ c0
    simp only at zV
    clear hb hG
    have CX : Hid (∀ W, Below V.heap.size V W → W.cell? ⟨w.heap.size, 0, none⟩ = some (.slice C n k)) := fun W hW => (hW.cell (p := ⟨w.heap.size, 0, none⟩) zV).trans c0
    have GB : Hid (∀ W, Below V.heap.size V W → GAt W C h) := fun W hW => G.out.below hW
    have RB : Hid (∀ W, Below V.heap.size V W → PairsAt W B rs) := fun W hW => pairs_below BR.out (BV.out.trans (hW.mono BV.out.size))
    go_region_held3 (fun w' => w'.cell? ⟨w.heap.size, 0, none⟩ = some (.slice C n k) ∧ Below V.heap.size V w') (first | exact ⟨c0, (Below.refl _ _).drew⟩ | exact held_keep (fun W => CX.out W) (by assumption) (by assumption))
      (first
      | (go_at_call 29; (with_reducible refine (FR.out _ C k (GB.out _ (by exact (by assumption : _ ∧ Below V.heap.size V _).2)) (RB.out _ (by exact (by assumption : _ ∧ Below V.heap.size V _).2))).mono ?_); rintro e w1 ⟨A1, c1, rfl, i1, hb1⟩)
      | (go_at_call 31; (with_reducible refine (LO.out _ C k (GB.out _ (by exact (by assumption : _ ∧ Below V.heap.size V _).2)) (RB.out _ (by exact (by assumption : _ ∧ Below V.heap.size V _).2))).mono ?_); rintro e w2 ⟨A2, c2, rfl, i2, hb2⟩))
    have HV : w2.cell? ⟨w.heap.size, 0, none⟩ = some (.slice C n k) ∧ Below V.heap.size V w2 := by assumption
    obtain ⟨x2, hb9⟩ := HV
    have B2 := Lib.hid hb9
    clear hb9 hb1 hb2 i1 i2
    go_wp2_with (first
      | (go_at_call 36; (with_reducible refine (CK.out _ C k (GB.out _ B2.out)).mono ?_); rintro e w3 ⟨rfl, hb⟩; have B3 : Hid (Below V.heap.size V w3) := B2.out.trans (hb.mono B2.out.size); clear hb)
      | (go_at_call 33; (with_reducible refine (works_true _).mono ?_); rintro e w4 ⟨rfl, hb⟩; have B4 : Hid (Below V.heap.size V w4) := B3.out.trans (hb.mono B3.out.size); clear hb))
    go_ret
    exact ⟨rfl, BV.out.trans (B4.out.mono BV.out.size)⟩
  | true =>
    have DF : Hid (∀ (q : Nat) (o : OB), h[q]? = some o → decide ((q : Int) + 1 ∈ intsOf (fromL h (more.take 40) true)) = (o.kind != 0 && reachB h (objsN h (more.take 40)) (q + 1))) := fun q o ho => by rw [from_dec hc _ _ ho]; simp
    have DL : Hid (∀ (q : Nat) (o : OB), h[q]? = some o → decide ((q : Int) + 1 ∈ intsOf (fromL h (more.take 40) false)) = (o.kind != 0 && !reachB h (objsN h (more.take 40)) (q + 1))) := fun q o ho => by rw [from_dec hc _ _ ho]; simp
    have CS : Hid (∀ (q : Nat) (o : OB), h[q]? = some o → ctN h (q + 1) = ctN h q + if (o.kind != 0) = true then 1 else 0) := fun q o ho => ct_snoc ho
    have CL : Hid (∀ q, ctN h q ≤ q) := ct_le h
    have C0 : Hid (ctN h 0 = 0) := (rfl : ctN h 0 = 0)
    have CF := Lib.hid (ct_full hc (more.take 40))
    have ST : Hid (∀ x ∈ refsL (more.take 40), ∀ o, h[(x - 1).toNat]? = some o → o.kind ≠ 0 → x ∈ intsOf (fromL h (more.take 40) true)) := fun x hx o ho hk => from_start hc hx ho hk
    have EA : Hid (∀ m ∈ intsOf (fromL h (more.take 40) true), ∃ (k : Nat) (o : OB), m = (k : Int) + 1 ∧ h[k]? = some o ∧ ∀ x ∈ refsL o.slots, x ∈ intsOf (fromL h (more.take 40) true)) := fun m hm => from_at hc hm
    have LED : Hid (∀ m ∈ intsOf (fromL h (more.take 40) true), ∃ (i : Nat) (s : Int), (refsL (more.take 40))[i]? = some s ∧ 0 < (intsOf (pathI h (6, s) m)).length) := fun m hm => by
      obtain ⟨i, s, h1, h2⟩ := from_led hc hm
      exact ⟨i, s, h1, by rw [intsOf_len]; exact h2⟩
    have RG : Hid (∀ x ∈ refsL (more.take 40), 1 ≤ x ∧ x ≤ 2147483647) := fun x hx => refs_range hx
    have GET : Hid (∀ i, i < h.length → ∃ p, h[i]? = some p) := fun i hi => ⟨_, List.getElem?_eq_getElem hi⟩
    have LT : Hid (∀ i o, h[i]? = some o → i < h.length) := fun i o hi => (List.getElem?_eq_some_iff.1 hi).1
    rw [hc] at CK
    clear hc
    obtain ⟨ct, hct⟩ : ∃ ct : Nat → Nat, ct = ctN h := ⟨_, rfl⟩
    obtain ⟨r, hr⟩ : ∃ r : Nat → Bool, r = reachB h (objsN h (more.take 40)) := ⟨_, rfl⟩
    rw [← hct] at CS CL C0 CF
    rw [← hr] at DF DL
    clear hct hr
    generalize hF : intsOf (fromL h (more.take 40) true) = F at *
    generalize hL : intsOf (fromL h (more.take 40) false) = L at *
    generalize refsL (more.take 40) = R at *
    generalize more.take 40 = rs at *
    clear hF hL
    generalize h.length = n at *
    generalize more.length = nm at *
    generalize rs.length = m at *
    generalize g.length = ng at *
    go_enter Try.func8, Try.ntmps8
    go_upto_region 3 with (go_at_call 27; (with_reducible refine OW.out.mono ?_); rintro e w1 ⟨C, k, rfl, hV, y0, f0⟩; have HV := Lib.hid hV; clear hV)
    refine at_world (fun V => GAt V C h ∧ Below w.heap.size w V ∧ V.cell? ⟨w.heap.size, 0, none⟩ = some (.slice C n k)) HV.out ?_
    clear HV y0 f0
    rintro V ⟨hG, hb, c0⟩
    have BV := Lib.hid hb
    have G := Lib.hid hG
    have zV := World.block_lt_of_cell? V _ c0
    simp only at zV
    clear hb hG
    have CX : Hid (∀ W, Below V.heap.size V W → W.cell? ⟨w.heap.size, 0, none⟩ = some (.slice C n k)) := fun W hW => (hW.cell (p := ⟨w.heap.size, 0, none⟩) zV).trans c0
    have GB : Hid (∀ W, Below V.heap.size V W → GAt W C h) := fun W hW => G.out.below hW
    have RB : Hid (∀ W, Below V.heap.size V W → PairsAt W B rs) := fun W hW => pairs_below BR.out (BV.out.trans (hW.mono BV.out.size))
    go_region_held3 (fun w' => w'.cell? ⟨w.heap.size, 0, none⟩ = some (.slice C n k) ∧ Below V.heap.size V w') (first | exact ⟨c0, (Below.refl _ _).drew⟩ | exact held_keep (fun W => CX.out W) (by assumption) (by assumption))
      (first
      | (go_at_call 29; (with_reducible refine (FR.out _ C k (GB.out _ (by exact (by assumption : _ ∧ Below V.heap.size V _).2)) (RB.out _ (by exact (by assumption : _ ∧ Below V.heap.size V _).2))).mono ?_); rintro e w1 ⟨A1, c1, rfl, i1, hb1⟩)
      | (go_at_call 31; (with_reducible refine (LO.out _ C k (GB.out _ (by exact (by assumption : _ ∧ Below V.heap.size V _).2)) (RB.out _ (by exact (by assumption : _ ∧ Below V.heap.size V _).2))).mono ?_); rintro e w2 ⟨A2, c2, rfl, i2, hb2⟩))
    have HV : w2.cell? ⟨w.heap.size, 0, none⟩ = some (.slice C n k) ∧ Below V.heap.size V w2 := by assumption
    obtain ⟨x2, hb9⟩ := HV
    have B2 := Lib.hid hb9
    have IF2 : Hid (IntsAt w2 A1 F) := i1.below hb2
    have IL2 := Lib.hid i2
    clear hb9 hb1 hb2 i1 i2 c0
    have FL1 := FL.out
    have LL1 := LL.out
    go_wp2_with (first
      | (go_at_call 36; (with_reducible refine (CK.out _ C k (GB.out _ B2.out)).mono ?_); rintro e w3 ⟨rfl, hb⟩; have B3 : Hid (Below V.heap.size V w3) := B2.out.trans (hb.mono B2.out.size); have IF3 := Lib.hid (IF2.out.below hb); have IL3 := Lib.hid (IL2.out.below hb); clear hb)
      | (go_at_call_of 37 A1; have HH := rising_any (c := c1) (w := w3) (by omega) IF3.out FS.out; (with_reducible refine HH.mono ?_); clear HH; rintro e w4 ⟨rfl, hb⟩; have B4 : Hid (Below V.heap.size V w4) := B3.out.trans (hb.mono B3.out.size); have IF4 := Lib.hid (IF3.out.below hb); have IL4 := Lib.hid (IL3.out.below hb); clear hb)
      | (go_at_call_of 37 A2; have HH := rising_any (c := c2) (w := w4) (by omega) IL4.out LS.out; (with_reducible refine HH.mono ?_); clear HH; rintro e w5 ⟨rfl, hb⟩; have B5 : Hid (Below V.heap.size V w5) := B4.out.trans (hb.mono B4.out.size); have IF5 := Lib.hid (IF4.out.below hb); have IL5 := Lib.hid (IL4.out.below hb); clear hb))
    clear B2 B3 B4 IF2 IF3 IF4 IL2 IL3 IL4 FR LO CK x2
    have x5 := CX.out w5 B5.out
    go_loopg [7, 8] n (fun gg s7 s8 wr => ∃ q : Nat, q ≤ n ∧ n - q ≤ gg ∧ s8 = .int .i64 q ∧ s7 = .int .i64 (ct q) ∧ wr = w5)
    case atStart => exact ⟨0, Nat.zero_le _, by omega, rfl, by rw [C0.out]; rfl, rfl⟩
    case round =>
      obtain ⟨q, hq, hgg, rfl, rfl, hw⟩ := hrel
      obtain rfl := hw.symm
      have hcq := CL.out q
      by_cases hlt : q < n
      · obtain ⟨o, ho⟩ := GET.out q hlt
        obtain ⟨a, sA, sc, e, hal, ⟨o0, o1, o2, o3, o4⟩, hs⟩ := (GB.out w5 B5.out) q o ho
        subst e
        have hl2 : (a.add (q * 5)).block < w5.heap.size := by rw [Go.ChangeShapes.block_add]; exact hal
        have CQ := Lib.hid (CS.out q o ho)
        by_cases hk : o.kind = 0
        · have e0 : (o.kind != 0) = false := by simp [hk]
          rw [hk] at o0
          have HF := Lib.hid (has_at (c := c1) IF5.out F.length rfl (by omega) ((q : Int) + 1) false (by rw [DF.out q o ho, e0]; rfl))
          have HL := Lib.hid (has_at (c := c2) IL5.out L.length rfl (by omega) ((q : Int) + 1) false (by rw [DL.out q o ho, e0]; rfl))
          have CR : Hid (ct (q + 1) = ct q) := (show _ = _ by rw [CQ.out, e0]; rfl)
          clear ho hs o1 o2 o3 o4 e0 hk CQ
          go_wp2_with (first
            | (go_at_call_of 38 A1; (with_reducible refine HF.out.mono ?_); rintro e _ ⟨rfl, rfl⟩)
            | (go_at_call_of 38 A2; (with_reducible refine HL.out.mono ?_); rintro e _ ⟨rfl, rfl⟩))
          go_roundg (n - (q + 1))
          case measure => omega
          case rel => exact ⟨q + 1, by omega, by omega, by go_num, by rw [CR.out], rfl⟩
        · have e0 : (o.kind != 0) = true := by simpa using hk
          have CR : Hid (ct (q + 1) = ct q + 1) := (show _ = _ by rw [CQ.out, e0]; rfl)
          have HF := Lib.hid (has_at (c := c1) IF5.out F.length rfl (by omega) ((q : Int) + 1) (r (q + 1)) (by rw [DF.out q o ho, e0]; rfl))
          have HL := Lib.hid (has_at (c := c2) IL5.out L.length rfl (by omega) ((q : Int) + 1) (!r (q + 1)) (by rw [DL.out q o ho, e0]; rfl))
          generalize o.kind = kd at *
          clear ho hs o1 o2 o3 o4 hk CQ
          cases hrq : r (q + 1) with
          | true =>
            rw [hrq] at HF HL
            clear hrq
            go_wp2_with (first
              | (go_at_call_of 38 A1; (with_reducible refine HF.out.mono ?_); rintro e _ ⟨rfl, rfl⟩)
              | (go_at_call_of 38 A2; (with_reducible refine HL.out.mono ?_); rintro e _ ⟨rfl, rfl⟩))
            go_roundg (n - (q + 1))
            case measure => omega
            case rel => exact ⟨q + 1, by omega, by omega, by go_num, by rw [CR.out]; go_num, rfl⟩
          | false =>
            rw [hrq] at HF HL
            clear hrq
            go_wp2_with (first
              | (go_at_call_of 38 A1; (with_reducible refine HF.out.mono ?_); rintro e _ ⟨rfl, rfl⟩)
              | (go_at_call_of 38 A2; (with_reducible refine HL.out.mono ?_); rintro e _ ⟨rfl, rfl⟩))
            go_roundg (n - (q + 1))
            case measure => omega
            case rel => exact ⟨q + 1, by omega, by omega, by go_num, by rw [CR.out]; go_num, rfl⟩
      · have e7 : ((ct q : Nat) : Int) = (F.length : Int) + (L.length : Int) := by rw [show q = n by omega, CF.out]; omega
        have hqn : q = n := by omega
        rw [e7]
        have IC := IF5
        go_wp2_with (go_at_call 39; (with_reducible refine (RF.out _ (RB.out _ B5.out)).mono ?_); rintro e w6 ⟨A6, c6, rfl, i6, hb⟩; have B6 : Hid (Below V.heap.size V w6) := B5.out.trans (hb.mono B5.out.size); have IF6 := Lib.hid (IF5.out.below hb); have IR6 := Lib.hid i6; clear hb i6)
        clear DF DL CS CL C0 CF hcq IF5 IL5 IC x5 e7
        have RL1 := RL.out
        go_loopg [11] R.length (fun gg s11 wr => ∃ q : Nat, q ≤ R.length ∧ R.length - q ≤ gg ∧ s11 = .int .i64 q ∧ Hid (Below V.heap.size V wr) ∧ Hid (IntsAt wr A6 R) ∧ Hid (IntsAt wr A1 F))
        case atStart => exact ⟨0, Nat.zero_le _, by omega, rfl, B6.out, IR6.out, IF6.out⟩
        case round =>
          clear B6 IR6 IF6 B5
          obtain ⟨q2, hq2, hg2, rfl, BW, IR, IF⟩ := hrel
          have x0 := CX.out wr BW.out
          by_cases hlt2 : q2 < R.length
          · obtain ⟨x, hx⟩ : ∃ x, R[q2]? = some x := ⟨_, List.getElem?_eq_getElem hlt2⟩
            have hxm := List.mem_of_getElem? hx
            obtain ⟨x1, x2⟩ := RG.out x hxm
            obtain ⟨ad, e, hal6, hcx⟩ := IR.out q2 x hx
            subst e
            by_cases hxn : x ≤ (n : Int)
            · obtain ⟨j, hj⟩ : ∃ j : Nat, j = (x - 1).toNat := ⟨_, rfl⟩
              have hjn : j < n := by omega
              obtain ⟨o, ho⟩ := GET.out j hjn
              obtain ⟨a, sA, sc, e, hal, ⟨o0, o1, o2, o3, o4⟩, hs⟩ := (GB.out wr BW.out) j o ho
              subst e
              have hl2 : (a.add (j * 5)).block < wr.heap.size := by rw [Go.ChangeShapes.block_add]; exact hal
              have hcast : x - 1 = (j : Int) := by omega
              have hwr : IntKind.i64.wrap (j : Int) = (j : Int) := IntWalk.i64_in _ (by omega)
              have hdx : decide (x ≤ (n : Int)) = true := decide_eq_true hxn
              have SX := fun hk => ST.out x hxm o (by rw [← hj]; exact ho) hk
              have hlen : (q2 : Int) < (R.length : Int) := by omega
              by_cases hk : o.kind = 0
              · rw [hk] at o0
                clear ho hs o1 o2 o3 o4 hk SX hx hxm hj hxn
                go_wp2_with fail
                go_quiet (fail)
                go_wp2_with fail
                go_roundg (R.length - (q2 + 1))
                case measure => omega
                case rel => exact ⟨q2 + 1, by omega, by omega, by go_num, (show Below _ _ _ from below_drewN BW.out _), (show IntsAt _ _ _ from IR.out.below (below_drewN (Below.refl _ _) _)), (show IntsAt _ _ _ from IF.out.below (below_drewN (Below.refl _ _) _))⟩
              · have hin := SX hk
                have e0 : (o.kind != 0) = true := by simpa using hk
                have HX : Hid (∀ a : Nat, Calls Try.prog 38 #[.slice A1 F.length c1, .int .i64 x] (wr.drewN a) fun e w' => e = .returned (.bool true) ∧ w' = wr.drewN a) := fun a => has_at (IF.out.below (below_drewN (Below.refl _ _) _)) F.length rfl (by omega) x true (decide_eq_true hin)
                generalize o.kind = kd at *
                clear ho hs o1 o2 o3 o4 hk SX hx hxm hj hxn hin
                go_wp2_with fail
                go_quiet ((go_at_call 38; exact Calls.quiet_of_same (HX.out _)))
                go_wp2_with fail
                go_roundg (R.length - (q2 + 1))
                case measure => omega
                case rel => exact ⟨q2 + 1, by omega, by omega, by go_num, (show Below _ _ _ from below_drewN BW.out _), (show IntsAt _ _ _ from IR.out.below (below_drewN (Below.refl _ _) _)), (show IntsAt _ _ _ from IF.out.below (below_drewN (Below.refl _ _) _))⟩
            · have hdx : decide (x ≤ (n : Int)) = false := decide_eq_false hxn
              have hlen : (q2 : Int) < (R.length : Int) := by omega
              clear hx hxm hxn
              go_wp2_with fail
              go_quiet (fail)
              go_wp2_with fail
              go_roundg (R.length - (q2 + 1))
              case measure => omega
              case rel => exact ⟨q2 + 1, by omega, by omega, by go_num, (show Below _ _ _ from below_drewN BW.out _), (show IntsAt _ _ _ from IR.out.below (below_drewN (Below.refl _ _) _)), (show IntsAt _ _ _ from IF.out.below (below_drewN (Below.refl _ _) _))⟩
          · go_wp2_with fail
            clear ST x0
            obtain ⟨w7, hw7⟩ : ∃ w7, w7 = wr := ⟨_, rfl⟩
            rw [← hw7]
            go_loopg [12] F.length (fun gg s12 wx => ∃ q : Nat, q ≤ F.length ∧ F.length - q ≤ gg ∧ s12 = .int .i64 q ∧ Hid (Below V.heap.size V wx) ∧ Hid (IntsAt wx A6 R) ∧ Hid (IntsAt wx A1 F))
            case atStart => exact ⟨0, Nat.zero_le _, by omega, rfl, hw7 ▸ BW, hw7 ▸ IR, hw7 ▸ IF⟩
            case round =>
              clear hw7 hlt2 hq2 hg2
              obtain ⟨q3, hq3, hg3, rfl, BX, IR3, IF3⟩ := hrel
              obtain ⟨W1, rfl⟩ : ∃ W1, W1 = wr := ⟨_, rfl⟩
              obtain ⟨G1, rfl⟩ : ∃ G1, G1 = gk := ⟨_, rfl⟩
              have x0 := CX.out W1 BX.out
              by_cases hlt3 : q3 < F.length
              · obtain ⟨mm, hmm⟩ : ∃ mm, F[q3]? = some mm := ⟨_, List.getElem?_eq_getElem hlt3⟩
                have hmF := List.mem_of_getElem? hmm
                obtain ⟨j, o, hmj, ho, hsub⟩ := EA.out mm hmF
                obtain ⟨li, ls, hli, hlp⟩ := LED.out mm hmF
                obtain ⟨af, e, hal1, hcf⟩ := IF3.out q3 mm hmm
                subst e
                have hjn : j < n := LT.out j o ho
                obtain ⟨a, sA, sc, e, hal, ⟨o0, o1, o2, o3, o4⟩, hs⟩ := (GB.out W1 BX.out) j o ho
                subst e
                have hl2 : (a.add (j * 5)).block < W1.heap.size := by rw [Go.ChangeShapes.block_add]; exact hal
                have hcast : mm - 1 = (j : Int) := by omega
                have hwr : IntKind.i64.wrap (j : Int) = (j : Int) := IntWalk.i64_in _ (by omega)
                have hlen3 : (q3 : Int) < (F.length : Int) := by omega
                have HR : Hid (∀ W, Below W1.heap.size W1 W → Calls Try.prog 39 #[.slice sA o.slots.length sc] W (GivesI (refsL o.slots) W)) := fun W hW => (Refs_any sA sc o.slots W (by have := hs.2; omega) (pairs_below hs.1 hW)).mono fun e w' h => GivesI.of h
                have SUB : Hid (∀ x ∈ refsL o.slots, x ∈ F) := hsub
                have HLI := Lib.hid hli
                have HLP := Lib.hid hlp
                have hR2 : (refsL o.slots).length ≤ 40 := Nat.le_trans (refsL_len _) (OS.out o (List.mem_of_getElem? ho))
                have CX3 : Hid (∀ W, Below W1.heap.size W1 W → W.cell? ⟨w.heap.size, 0, none⟩ = some (.slice (some a) n k) ∧ W.cell? (af.add q3) = some (.int .i64 mm) ∧ W.cell? ⟨(a.add (j * 5)).block, (a.add (j * 5)).off + 2, none⟩ = some (.slice sA o.slots.length sc)) := fun W hW =>
                  ⟨(hW.cell (p := ⟨w.heap.size, 0, none⟩) (World.block_lt_of_cell? _ _ x0)).trans x0, (hW.cell (World.block_lt_of_cell? _ _ hcf)).trans hcf, (hW.cell (p := ⟨(a.add (j * 5)).block, (a.add (j * 5)).off + 2, none⟩) hl2).trans o2⟩
                have x2' := o2
                have HMM : Hid (F[q3]? = some mm) := hmm
                have HMB : Hid (1 ≤ mm ∧ mm ≤ 40) := ⟨by omega, by omega⟩
                clear o0 o1 o3 o4 hmF hmj hsub hli hlp hmm ho
                go_upto_region 28 with (fail)
                go_region_held3 (fun w' => w'.cell? ⟨w.heap.size, 0, none⟩ = some (.slice (some a) n k) ∧ w'.cell? (af.add q3) = some (.int .i64 mm) ∧ w'.cell? ⟨(a.add (j * 5)).block, (a.add (j * 5)).off + 2, none⟩ = some (.slice sA o.slots.length sc) ∧ Below W1.heap.size W1 w') (first | exact ⟨x0, hcf, x2', (Below.refl _ _).drew⟩ | exact held_keepP (fun W => CX3.out W) (by assumption) (by assumption))
                  ((go_at_call 39; (with_reducible refine (HR.out _ (by exact (by assumption : _ ∧ _ ∧ _ ∧ Below W1.heap.size W1 _).2.2.2)).mono ?_); rintro e w8 ⟨A8, c8, rfl, i8, hb8⟩))
                have HV8 : w8.cell? ⟨w.heap.size, 0, none⟩ = some (.slice (some a) n k) ∧ w8.cell? (af.add q3) = some (.int .i64 mm) ∧ w8.cell? ⟨(a.add (j * 5)).block, (a.add (j * 5)).off + 2, none⟩ = some (.slice sA o.slots.length sc) ∧ Below W1.heap.size W1 w8 := by assumption
                have B8 : Hid (Below V.heap.size V w8) := BX.out.trans (HV8.2.2.2.mono BX.out.size)
                have IR8 : Hid (IntsAt w8 A6 R) := IR3.out.below HV8.2.2.2
                have IF8 : Hid (IntsAt w8 (some af) F) := IF3.out.below HV8.2.2.2
                have I8 := Lib.hid i8
                have x8 := HV8.1
                have hcf8 := HV8.2.1
                clear HV8 i8 hb8 CX3 HR x0 x2' o2 hcf hl2 hcast hwr hs BX IR3 IF3 IF hal hal1
                generalize refsL o.slots = R2 at *
                go_wp2_with fail
                go_loopg [14] R2.length (fun gg s14 wr => ∃ q : Nat, q ≤ R2.length ∧ R2.length - q ≤ gg ∧ s14 = .int .i64 q ∧ wr = w8)
                case atStart => exact ⟨0, Nat.zero_le _, by omega, rfl, rfl⟩
                case round =>
                  obtain ⟨q4, hq4, hg4, rfl, hw8⟩ := hrel
                  obtain rfl := hw8.symm
                  by_cases hlt4 : q4 < R2.length
                  · obtain ⟨y, hy⟩ : ∃ y, R2[q4]? = some y := ⟨_, List.getElem?_eq_getElem hlt4⟩
                    obtain ⟨ad8, e, hal8, hcy⟩ := I8.out q4 y hy
                    subst e
                    have HY := Lib.hid (has_at (c := c1) IF8.out F.length rfl (by omega) y true (decide_eq_true (SUB.out y (List.mem_of_getElem? hy))))
                    clear hy
                    go_wp2_with (go_at_call 38; (with_reducible refine HY.out.mono ?_); rintro e _ ⟨rfl, rfl⟩)
                    go_roundg (R2.length - (q4 + 1))
                    case measure => omega
                    case rel => exact ⟨q4 + 1, by omega, by omega, by go_num, rfl⟩
                  · clear I8 SUB
                    go_wp2_with fail
                    go_loopg [15, 16] R.length (fun gg s15 s16 wr => ∃ (q : Nat) (b : Bool), q ≤ R.length ∧ R.length - q ≤ gg ∧ s16 = .int .i64 q ∧ s15 = .bool b ∧ Hid (b = false → ∀ i s, i < q → R[i]? = some s → ¬ 0 < (intsOf (pathI h (6, s) mm)).length) ∧ Hid (Below V.heap.size V wr) ∧ Hid (IntsAt wr A6 R) ∧ Hid (IntsAt wr (some af) F))
                    case atStart => exact ⟨0, false, Nat.zero_le _, by omega, rfl, rfl, (fun _ i s hi => absurd hi (Nat.not_lt_zero _)), B8.out, IR8.out, IF8.out⟩
                    case round =>
                      clear B8 IR8 IF8 x8 hcf8 hlt4 hq4 hg4
                      obtain ⟨q5, b5, hq5, hg5, rfl, rfl, NO, B9, IR9, IF9⟩ := hrel
                      have x9 := CX.out wr B9.out
                      obtain ⟨ad1, e, hal9, hcf⟩ := IF9.out q3 mm HMM.out
                      injection e with e
                      subst e
                      cases hb5 : b5 with
                      | true =>
                        clear NO hb5
                        by_cases hlt5 : q5 < R.length
                        · have hd5 : decide ((q5 : Int) < (R.length : Int)) = true := by simp; omega
                          go_wp2_with fail
                          go_roundg (G1 - 1)
                          case measure => omega
                          case rel => exact ⟨q3 + 1, by omega, by omega, by go_num, B9.out, IR9.out, IF9.out⟩
                        · have hd5 : decide ((q5 : Int) < (R.length : Int)) = false := by simp; omega
                          go_wp2_with fail
                          go_roundg (G1 - 1)
                          case measure => omega
                          case rel => exact ⟨q3 + 1, by omega, by omega, by go_num, B9.out, IR9.out, IF9.out⟩
                      | false =>
                        by_cases hlt5 : q5 < R.length
                        · obtain ⟨s, hs⟩ : ∃ s, R[q5]? = some s := ⟨_, List.getElem?_eq_getElem hlt5⟩
                          obtain ⟨ad6, e, hal6', hcs⟩ := IR9.out q5 s hs
                          subst e
                          have hlen3 : (q3 : Int) < (F.length : Int) := by omega
                          have hlen5 : (q5 : Int) < (R.length : Int) := by omega
                          obtain ⟨W2, rfl⟩ : ∃ W2, W2 = wr := ⟨_, rfl⟩
                          have HP : Hid (∀ W, Below W2.heap.size W2 W → Calls Try.prog 34 #[gV (some a) n k, .agg #[.int .i64 6, .int .i64 s], .int .i64 mm] W (GivesI (intsOf (pathI h (6, s) mm)) W)) := fun W hW => PA.out W (some a) k s mm (GB.out W (B9.out.trans (hW.mono B9.out.size))) (by have := HMB.out; omega) (by have := HMB.out; omega)
                          have CX3 : Hid (∀ W, Below W2.heap.size W2 W → W.cell? ⟨w.heap.size, 0, none⟩ = some (.slice (some a) n k) ∧ W.cell? (af.add q3) = some (.int .i64 mm) ∧ W.cell? (ad6.add q5) = some (.int .i64 s)) := fun W hW =>
                            ⟨(hW.cell (p := ⟨w.heap.size, 0, none⟩) (World.block_lt_of_cell? _ _ x9)).trans x9, (hW.cell (World.block_lt_of_cell? _ _ hcf)).trans hcf, (hW.cell (World.block_lt_of_cell? _ _ hcs)).trans hcs⟩
                          have NX : Hid (∀ i s', i < q5 + 1 → R[i]? = some s' → i = q5 ∨ ¬ 0 < (intsOf (pathI h (6, s') mm)).length) := fun i s' hi hs' => by
                            by_cases e : i = q5
                            · exact Or.inl e
                            · exact Or.inr (NO.out hb5 i s' (by omega) hs')
                          have NS : Hid (R[q5]? = some s) := hs
                          clear NO hs hb5
                          go_upto_region 38 with (fail)
                          go_region_held3 (fun w' => w'.cell? ⟨w.heap.size, 0, none⟩ = some (.slice (some a) n k) ∧ w'.cell? (af.add q3) = some (.int .i64 mm) ∧ w'.cell? (ad6.add q5) = some (.int .i64 s) ∧ Below W2.heap.size W2 w') (first | exact ⟨x9, hcf, hcs, (Below.refl _ _).drew⟩ | exact held_keepP (fun W => CX3.out W) (by assumption) (by assumption))
                            ((go_at_call 34; (with_reducible refine (HP.out _ (by exact (by assumption : _ ∧ _ ∧ _ ∧ Below W2.heap.size W2 _).2.2.2)).mono ?_); rintro e w10 ⟨A10, c10, rfl, i10, hb10⟩))
                          have HV10 : w10.cell? ⟨w.heap.size, 0, none⟩ = some (.slice (some a) n k) ∧ w10.cell? (af.add q3) = some (.int .i64 mm) ∧ w10.cell? (ad6.add q5) = some (.int .i64 s) ∧ Below W2.heap.size W2 w10 := by assumption
                          have B10 : Hid (Below V.heap.size V w10) := B9.out.trans (HV10.2.2.2.mono B9.out.size)
                          have IR10 : Hid (IntsAt w10 (some ad6) R) := IR9.out.below HV10.2.2.2
                          have IF10 : Hid (IntsAt w10 (some af) F) := IF9.out.below HV10.2.2.2
                          clear HV10 i10 hb10
                          have ND : Hid (decide (0 < (intsOf (pathI h (6, s) mm)).length) = false → ∀ i s', i < q5 + 1 → R[i]? = some s' → ¬ 0 < (intsOf (pathI h (6, s') mm)).length) := fun hd i s' hi hs' => by
                            rcases NX.out i s' hi hs' with e | h
                            · subst e
                              have e := NS.out.symm.trans hs'
                              injection e with e
                              subst e
                              have := of_decide_eq_false hd
                              omega
                            · exact h
                          go_wp2_with fail
                          go_roundg (R.length - (q5 + 1))
                          case measure => omega
                          case rel => exact ⟨q5 + 1, _, by omega, by omega, by go_num, rfl, ND.out, B10.out, IR10.out, IF10.out⟩
                        · exfalso
                          exact NO.out hb5 li ls (by have := (List.getElem?_eq_some_iff.1 HLI.out).1; omega) HLI.out HLP.out
              · go_wp2_with (go_at_call 33; (with_reducible refine (works_true _).mono ?_); rintro e w11 ⟨rfl, hb⟩; have B11 : Hid (Below V.heap.size V w11) := BX.out.trans (hb.mono BX.out.size); clear hb)
                go_ret
                exact ⟨rfl, BV.out.trans (B11.out.mono BV.out.size)⟩
theorem own : ownKnob Try.prog.godebug = none := by kernel_rfl
theorem laidOut : laidOutB Try.prog = true := by kernel_rfl
set_option maxRecDepth 100000 in
theorem contract (H : Type) (enc : TypeId × Value → H) (W : World) (base : Nat) (args : Array Value) (ds gs : List (DataW H)) (before : List MemPlace)
    (hval : ∀ (j : Nat) t v, Try.f8.params[j]? = some t → args[j]? = some v → Value.okWide Try.prog W .any base t v)
    (hW : DataW.Whole enc Try.prog Try.f8.params.toList Rows.reachClosesSpec.vars false W args.toList ds gs before)
    (hsz0 : (DataW.weightsEach Try.prog (Try.f8.params.toList ++ Rows.reachClosesSpec.plain.varTypes Try.prog) (ds ++ gs)).all (· ≤ reachBytes) = true) :
    Calls Try.prog 8 args W fun e W' => ∃ v, e = .returned v ∧ Rows.reachClosesSpec.post enc Try.prog Try.f8 false true false false W args v W' := by
  have hW' := hW
  obtain ⟨p, q, hA0, hV, rfl, hfz, hnd⟩ := hW
  have hA : DataW.TrodAll enc Try.prog W 0 (fun _ => true) true Try.f8.params.toList args.toList ds p := hA0
  have hsz := hsz0
  rw [Try.params8] at hA hval hsz
  obtain ⟨v0, vs0, d0, ds0, p0, q0, hargs, rfl, rfl, h0, r0⟩ := trodAll_cons hA
  obtain ⟨v1, vs1, d1, ds1, p1, q1, rfl, rfl, rfl, h1, r1⟩ := trodAll_cons r0
  obtain ⟨rfl, rfl, rfl⟩ := trodAll_nil r1
  obtain rfl : args = #[v0, v1] := by cases args; simp_all
  obtain ⟨rfl, rfl⟩ := trodVars_none hV
  obtain ⟨A0, c0, l0, rfl, w0, z0⟩ := open_graph_c (hval 0 41 v0 rfl rfl) h0 (size_of hsz (j := 0) rfl rfl)
  obtain ⟨A1, c1, l1, rfl, q1, w1, z1⟩ := open_more_c (hval 1 22 v1 rfl rfl) h1 (size_of hsz (j := 1) rfl rfl)
  clear hA0 hsz hsz0
  simp only [List.append_nil] at hW'
  refine (walk A0 c0 l0 A1 c1 l1 z0 z1 q1 W w0 w1).mono fun e W' ⟨he, hb⟩ => ?_
  subst he
  exact ⟨_, rfl, law_post laidOut (by kernel_rfl) (by kernel_rfl) Try.underlying4 hW' hb rfl⟩

set_option maxRecDepth 100000 in
theorem lifted (os : Os) (started : os.Started) (H : Type) (enc : TypeId × Value → H) :
    ReturnsInHanded {} Try.checked os 8 .any (Rows.reachClosesSpec.pre6 enc Try.prog Try.f8 Rows.reachClosesRow.domain false) (Rows.reachClosesSpec.post enc Try.prog Try.f8 false true false false) := by
  refine returnsInHanded_of_change_sized (C := Try.checked) own started (by kernel_rfl) Try.func8
    (ChangeSpec.witness6 (enc := enc) (C := Try.checked) false ⟨#[], #[.agg #[.slice none 0 0], .slice none 0 0], []⟩ 8 (by kernel_rfl) (by kernel_rfl) (by kernel_rfl) (by kernel_rfl)) ?_
  intro W base args ds gs before hval hW _ hsz _
  exact contract H enc W base args ds gs before hval hW hsz
/-- The row. -/
theorem holds : Rows.ReachClosesSaid :=
  OpenClaim.holds_of_wide 8 Try.f8 rfl rfl rfl rfl rfl rfl rfl ⟨rfl, rfl, rfl, rfl, rfl⟩ rfl rfl rfl rfl rfl (by kernel_rfl) Try.func8 (by kernel_rfl)
    (of_decide_eq_true (by kernel_rfl)) (by unfold Func.isWrapper; first | (rw [if_pos (by decide +kernel)]; kernel_rfl) | (rw [if_neg (by decide +kernel)]; exact ⟨rfl, rfl⟩))
    (fun os started H enc _ => lifted os started H enc)
end Go.Proofs.Ytiocfnpfmilkgaa.reachCloses
