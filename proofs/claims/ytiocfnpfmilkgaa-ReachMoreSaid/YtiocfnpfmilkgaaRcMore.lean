/- ReachMore: with more roots more can be reached; what is reached from what is reached is reached: for any graph, any roots. Conditions: none but the form's own reach. -/
import Derived.Test.YtiocfnpfmilkgaaRcLawW
import Derived.Test.YtiocfnpfmilkgaaLawPost
import Derived.ProofKit
import Derived.BigQuiet
import Derived.Deep.LoopGhost
import Derived.Deep.DeepCutAuto
import Derived.Deep.RegionHeld3
namespace Go.Proofs.Ytiocfnpfmilkgaa.reachMore
set_option maxRecDepth 20000
open Go.ChangeShapes Go.WideShapes Go.ChangeAt Go.RowKit Go.Maps Go.Sort

theorem objs_append (g : List OB) (l1 l2 : List (Int × Int)) : objsN g (l1 ++ l2) = objsN g l1 ++ objsN g l2 := by simp [objsN, refsL]
theorem from_more {g : List OB} {l1 l2 : List (Int × Int)} {x : Int} (h : x ∈ intsOf (fromL g l1 true)) : x ∈ intsOf (fromL g (l1 ++ l2) true) := by
  obtain ⟨n, rfl, hn⟩ := ints_mem.1 h
  cases hc : checkB g with
  | false => unfold fromL at hn; rw [hc] at hn; simp at hn
  | true =>
    rw [ints_has, from_has hc, reachB_iff]
    obtain ⟨h1, h2⟩ := (from_has hc).1 hn
    rw [reachB_iff] at h2
    refine ⟨h1, h2.mono fun m hm => .root ?_⟩
    rw [objs_append]
    exact List.mem_append_left _ hm
theorem refs_cells : ∀ (L : List Nat), (∀ n ∈ L, 1 ≤ n ∧ n ≤ 2147483647) → (refsL ((intsOf L).map fun x => ((9 : Int), x))).map Int.toNat = L
  | [], _ => rfl
  | n :: r, h => by
    have ih := refs_cells r (fun m hm => h m (by simp [hm]))
    have hb : refB 9 (n : Int) = true := refB_iff.2 ⟨mayB_iff.2 (by have := h n (by simp); omega), by omega⟩
    have e : refsL ((intsOf (n :: r)).map fun x => ((9 : Int), x)) = (n : Int) :: refsL ((intsOf r).map fun x => ((9 : Int), x)) := by simp [intsOf, refsL, hb]
    rw [e, List.map_cons, ih, Int.toNat_natCast]
theorem from_congr {g : List OB} {a b : List (Int × Int)} (e : reachB g (objsN g a) = reachB g (objsN g b)) : fromL g a true = fromL g b true := by unfold fromL; rw [e]
theorem from_again {g : List OB} (hg : g.length ≤ 40) (l : List (Int × Int)) : fromL g ((intsOf (fromL g l true)).map fun x => ((9 : Int), x)) true = fromL g l true := by
  cases hc : checkB g with
  | false => unfold fromL; rw [hc]; rfl
  | true =>
    have hF : ∀ m, m ∈ fromL g l true ↔ thereN g m = true ∧ Rch g (objsN g l) m := fun m => by rw [from_has hc, reachB_iff]
    have hO : ∀ m, m ∈ objsN g ((intsOf (fromL g l true)).map fun x => ((9 : Int), x)) ↔ m ∈ fromL g l true := fun m => by
      unfold objsN
      rw [refs_cells _ (fun n hn => by have := there_le ((hF n).1 hn).1; omega), List.mem_filter]
      exact ⟨fun h => h.1, fun h => ⟨h, ((hF m).1 h).1⟩⟩
    have e : reachB g (objsN g ((intsOf (fromL g l true)).map fun x => ((9 : Int), x))) = reachB g (objsN g l) := by
      funext m
      rw [Bool.eq_iff_iff, reachB_iff, reachB_iff]
      constructor
      · intro h
        exact h.mono fun x hx => ((hF x).1 ((hO x).1 hx)).2
      · intro h
        exact .root ((hO m).2 ((hF m).2 ⟨h.there hc (fun x hx => objs_there hx), h⟩))
    exact from_congr e
set_option maxHeartbeats 8000000 in
theorem walk (A : Option Addr) (c : Nat) (g : List OB) (B1 : Option Addr) (d1 : Nat) (some1 : List (Int × Int)) (B2 : Option Addr) (d2 : Nat) (more : List (Int × Int)) (hz : g.length * 64 ≤ 140737488351232) (_hm1 : some1.length * 16 ≤ 140737488351232) (hd1 : some1.length ≤ d1) (_hm2 : more.length * 16 ≤ 140737488351232) (hd2 : more.length ≤ d2) (w : World) (hg : GAtC w A g) (hB1 : PairsAt w B1 some1) (hB2 : PairsAt w B2 more) :
    Calls Try.prog 10 #[.agg #[.slice A g.length c], .slice B1 some1.length d1, .slice B2 more.length d2] w fun e w' => e = .returned (.bool true) ∧ Below w.heap.size w w' := by
  have OW := Lib.hid (own_boxed (c := c) hg (by omega))
  have BR1 := Lib.hid (pairs_take hB1 40)
  have BR2 := Lib.hid (pairs_take hB2 40)
  have hN : (ownG g).length ≤ 40 := by rw [ownG_len]; omega
  have hm1 : (some1.take 40).length ≤ 40 := List.length_take_le _ _
  have hm2 : (more.take 40).length ≤ 40 := List.length_take_le _ _
  have hmin1 : min ((some1.length : Nat) : Int) 40 = ((some1.take 40).length : Int) := by rw [List.length_take]; omega
  have hmin2 : min ((more.length : Nat) : Int) 40 = ((more.take 40).length : Int) := by rw [List.length_take]; omega
  have hmd1 : (some1.take 40).length ≤ d1 := by rw [List.length_take]; omega
  have hmd2 : (more.take 40).length ≤ d2 := by rw [List.length_take]; omega
  have FG : Hid (∀ W C k B d l, GAt W C (ownG g) → PairsAt W B l → l.length ≤ 100 → Calls Try.prog 29 #[gV C (ownG g).length k, .slice B l.length d] W (GivesI (intsOf (fromL (ownG g) l true)) W)) := fun W C k B d l h1 h2 h3 => (From_any h1 (by omega) (by omega) h2).mono fun e w' h => GivesI.of h
  generalize ownG g = h at *
  have FL := Lib.hid (from_len h (some1.take 40) true)
  have FL2 := Lib.hid (from_len h (some1.take 40 ++ more.take 40) true)
  have SUB : Hid (∀ x ∈ intsOf (fromL h (some1.take 40) true), x ∈ intsOf (fromL h (some1.take 40 ++ more.take 40) true)) := fun x hx => from_more hx
  have AG := Lib.hid (from_again hN (some1.take 40))
  have F1 : Hid (∀ W C k, GAt W C h → PairsAt W B1 (some1.take 40) → Calls Try.prog 29 #[gV C h.length k, .slice B1 (some1.take 40).length d1] W (GivesI (intsOf (fromL h (some1.take 40) true)) W)) := fun W C k h1 h2 => FG.out W C k B1 d1 _ h1 h2 (by omega)
  have F2 : Hid (∀ W C k B d, GAt W C h → PairsAt W B (some1.take 40 ++ more.take 40) → Calls Try.prog 29 #[gV C h.length k, .slice B ((some1.take 40).length + (more.take 40).length) d] W (GivesI (intsOf (fromL h (some1.take 40 ++ more.take 40) true)) W)) := fun W C k B d h1 h2 => by
    have := FG.out W C k B d _ h1 h2 (by rw [List.length_append]; omega)
    rwa [List.length_append] at this
  have F3 : Hid (∀ W C k B d, GAt W C h → PairsAt W B ((intsOf (fromL h (some1.take 40) true)).map fun x => ((9 : Int), x)) → Calls Try.prog 29 #[gV C h.length k, .slice B (intsOf (fromL h (some1.take 40) true)).length d] W (GivesI (intsOf (fromL h (some1.take 40) true)) W)) := fun W C k B d h1 h2 => by
    have := FG.out W C k B d _ h1 h2 (by rw [List.length_map]; have := FL.out; omega)
    rwa [List.length_map, AG.out] at this
  clear hg hB1 hB2 AG FG
  generalize intsOf (fromL h (some1.take 40) true) = F at *
  generalize intsOf (fromL h (some1.take 40 ++ more.take 40) true) = F' at *
  generalize some1.take 40 = l1 at *
  generalize more.take 40 = l2 at *
  generalize h.length = n at *
  generalize some1.length = nm1 at *
  generalize more.length = nm2 at *
  generalize hl1 : l1.length = m1 at *
  generalize hl2 : l2.length = m2 at *
  generalize g.length = ng at *
  have HL1 := Lib.hid hl1
  have HL2 := Lib.hid hl2
  clear hl1 hl2
  obtain ⟨i1, hi1, hv0, hv1, hv2⟩ := info_parts val_info
  go_enter Try.func10, Try.ntmps10
  go_upto_region 4 with (go_at_call 27; (with_reducible refine OW.out.mono ?_); rintro e w1 ⟨C, k, rfl, hV, y0, f0⟩; have HV := Lib.hid hV; clear hV)
  refine at_world (fun V => GAt V C h ∧ Below w.heap.size w V ∧ V.cell? ⟨w.heap.size, 0, none⟩ = some (.slice C n k)) HV.out ?_
  clear HV y0 f0
  rintro V0 ⟨hG0, hb0, c0⟩
  have BV0 := Lib.hid hb0
  have G0 := Lib.hid hG0
  have zV0 := World.block_lt_of_cell? V0 _ c0
  simp only at zV0
  clear hb0 hG0
  go_upto_region 5 with (go_at_call 29; (with_reducible refine (F1.out _ C k G0.out (pairs_below BR1.out BV0.out)).mono ?_); rintro e V ⟨A1, c1, rfl, iF, hb⟩; have IF := Lib.hid iF; have BV : Hid (Below w.heap.size w V) := BV0.out.trans (hb.mono BV0.out.size); have G : Hid (GAt V C h) := G0.out.below hb; have cV := (hb.cell (p := ⟨w.heap.size, 0, none⟩) zV0).trans c0; have zV : w.heap.size < V.heap.size := Nat.lt_of_lt_of_le zV0 hb.size; clear iF hb)
  have PS1 : Hid (∀ W, Below V.heap.size V W → Reads W W.heap.size 2 B1 m1 (pairCells l1)) := fun W hW => by
    have := reads_below (pairs_below BR1.out BV.out) hW
    rwa [HL1.out] at this
  have PS2 : Hid (∀ W, Below V.heap.size V W → Reads W W.heap.size 2 B2 m2 (pairCells l2)) := fun W hW => by
    have := reads_below (pairs_below BR2.out BV.out) hW
    rwa [HL2.out] at this
  have KP : Hid (∀ W, Below V.heap.size V W → W.cell? ⟨w.heap.size, 0, none⟩ = some (.slice C n k) ∧ Below V.heap.size V W) := fun W hW => ⟨(hW.cell (p := ⟨w.heap.size, 0, none⟩) zV).trans cV, hW⟩
  clear c0
  have xV : ∀ o, (V.alloc o).cell? ⟨w.heap.size, 0, none⟩ = some (.slice C n k) := fun o => (KP.out _ ((Below.refl _ _).alloc (Nat.le_refl _) o)).1
  go_region_law (first
    | (refine step_append_any _ rfl (.tmp 28) (.tmp 29) 22 rfl V.heap.size 24 i1 _ 2 16 Try.underlying22 hi1 hv0 hv1 hv2 rfl (by decide) (.slice (some ⟨V.heap.size, 0, none⟩) 0 0) 0 [] rfl (by first | exact empty_own _ | exact (empty_own _).drew) _ B1 m1 d1 (pairCells l1) rfl (PS1.out _ (by first | exact (Below.refl _ _).alloc (Nat.le_refl _) _ | exact ((Below.refl _ _).drew).alloc (by simp) _ | exact ((Below.refl _ _).alloc (Nat.le_refl _) _).drew)) (pairs_one _) (by unfold maxLen; omega) (by omega) (by simp) ?_; intro v1 w5 hw5 hg5 hat5; rw [Nat.zero_add, List.nil_append] at hw5; have HB5 : Below V.heap.size V w5 := Below.grown (by first | exact (Below.refl _ _).alloc (Nat.le_refl _) _ | exact ((Below.refl _ _).drew).alloc (by simp) _ | exact ((Below.refl _ _).alloc (Nat.le_refl _) _).drew) hg5 (by simp) (fun b hb => by have hb : some V.heap.size = some b := hb; injection hb with hb; omega); have x5 := (KP.out _ HB5).1)
    | (refine step_append_any _ rfl (.tmp 30) (.tmp 31) 22 rfl V.heap.size 24 i1 _ 2 16 Try.underlying22 hi1 hv0 hv1 hv2 rfl (by decide) v1 m1 (pairCells l1) rfl hw5 _ B2 m2 d2 (pairCells l2) rfl (PS2.out _ HB5) (pairs_one _) (by unfold maxLen; omega) (by omega) HB5.size ?_; intro v2 w6 hw6 hg6 hat6; have HB6 : Below V.heap.size V w6 := HB5.grown hg6 HB5.size (fun b hb => (hw5.lt b hb).1); obtain ⟨A6, c6, rfl, hp6, -⟩ := pairs_of_own (l := l1 ++ l2) (by rw [List.length_append, HL1.out, HL2.out]; simpa [pairCells] using hw6); rw [List.length_append, HL1.out, HL2.out]; have x6 := (KP.out _ HB6).1)
    | (go_simp; go_at_call 29; (with_reducible refine (F2.out _ C k A6 c6 (G.out.below HB6) hp6).mono ?_); rintro e w7 ⟨A7, c7, rfl, i7, hb7⟩))
  all_goals
    have B7 : Hid (Below V.heap.size V w7) := HB6.trans (hb7.mono HB6.size)
    have IF7 : Hid (IntsAt w7 A1 F) := IF.out.below B7.out
    have I7 := Lib.hid i7
    have FL1 := FL.out
    have FL3 := FL2.out
    have x7 := (KP.out _ B7.out).1
    have z7 : V.heap.size ≤ w7.heap.size := B7.out.size
    clear i7 hb7 HB6 HB5 hw5 hw6 hg5 hg6 hat5 hat6 hp6 x5 x6 xV PS1 PS2 BR1 BR2
    go_wp2_with fail
    go_loopg [9] F.length (fun gg s9 wr => ∃ q : Nat, q ≤ F.length ∧ F.length - q ≤ gg ∧ s9 = .int .i64 q ∧ wr = w7)
    case atStart => exact ⟨0, Nat.zero_le _, by omega, rfl, rfl⟩
    case round =>
      obtain ⟨q, hq, hgg, rfl, hw⟩ := hrel
      obtain rfl := hw.symm
      by_cases hlt : q < F.length
      · obtain ⟨x, hx⟩ : ∃ x, F[q]? = some x := ⟨_, List.getElem?_eq_getElem hlt⟩
        obtain ⟨af, e, hal, hcx⟩ := IF7.out q x hx
        subst e
        have HY := Lib.hid (has_at (c := c7) I7.out F'.length rfl (by omega) x true (decide_eq_true (SUB.out x (List.mem_of_getElem? hx))))
        clear hx
        go_wp2_with (go_at_call 38; (with_reducible refine HY.out.mono ?_); rintro e _ ⟨rfl, rfl⟩)
        go_roundg (F.length - (q + 1))
        case measure => omega
        case rel => exact ⟨q + 1, by omega, by omega, by go_num, rfl⟩
      · go_wp2_with fail
        clear hgg hlt hq
        go_loopg [10, 11] F.length (fun gg s10 s11 wr => ∃ q : Nat, q ≤ F.length ∧ F.length - q ≤ gg ∧ s11 = .int .i64 q ∧ Hid (wr.ownsRow w7.heap.size 24 2 s10 q (pairCells ((F.take q).map fun x => ((9 : Int), x)))) ∧ Hid (Below w7.heap.size w7 wr))
        case atStart => exact ⟨0, Nat.zero_le _, by omega, rfl, World.ownsRow_nil _ _ _ _, Below.refl _ _⟩
        case round =>
          obtain ⟨k2, hk2, hg2, rfl, O, BW⟩ := hrel
          by_cases hlt : k2 < F.length
          · obtain ⟨x, hx⟩ : ∃ x, F[k2]? = some x := ⟨_, List.getElem?_eq_getElem hlt⟩
            obtain ⟨af, e, hal, hcx⟩ := (IF7.out.below BW.out) k2 x hx
            subst e
            have E1 : Hid (pairCells ((F.take (k2 + 1)).map fun x => ((9 : Int), x)) = pairCells ((F.take k2).map fun x => ((9 : Int), x)) ++ [iV 9, iV x]) := (show _ = _ by rw [List.take_add_one, hx]; simp [pairCells])
            have hbw := BW.out.size
            clear hx
            go_wp2_with (at_builtin; refine wpList_append_own _ rfl (.tmp 53) (.tmp 59) _ rfl w7.heap.size 24 i1 _ 2 16 Try.underlying22 hi1 hv0 hv1 hv2 rfl (by decide) _ _ _ rfl (O.out.alloc _) ⟨wr.heap.size, 0, none⟩ 1 1 [iV 9, iV x] rfl rfl lit_cells (by simp [Value.oneCell']) (by unfold maxLen; omega) (by omega) (by simp; omega) ?_; intro v' w8 hown8 hg8 _)
            have O8 : Hid (w8.ownsRow w7.heap.size 24 2 v' (k2 + 1) (pairCells ((F.take (k2 + 1)).map fun x => ((9 : Int), x)))) := (show World.ownsRow _ _ _ _ _ _ _ by rw [E1.out]; exact hown8)
            have B8 : Hid (Below w7.heap.size w7 w8) := (BW.out.alloc BW.out.size _).grown hg8 (by simp; omega) (fun b hb => (O.out.lt b hb).1)
            clear hown8 hg8
            go_roundg (F.length - (k2 + 1))
            case measure => omega
            case rel => exact ⟨k2 + 1, by omega, by omega, by go_num, O8.out, B8.out⟩
          · have hkn : k2 = F.length := by omega
            have O2 := O.out
            rw [hkn, List.take_of_length_le (Nat.le_refl _)] at O2
            obtain ⟨A9, c9, rfl, hp9, -⟩ := pairs_of_own (l := F.map fun x => ((9 : Int), x)) (by rw [List.length_map]; exact O2)
            rw [List.length_map]
            have x9 := (KP.out _ (B7.out.trans (BW.out.mono B7.out.size))).1
            have C9 := Lib.hid (F3.out _ C k A9 c9 (G.out.below (B7.out.trans (BW.out.mono B7.out.size))) hp9)
            clear O O2 hp9 hkn
            go_wp2_with (first
              | (go_at_call 29; (with_reducible refine C9.out.mono ?_); rintro e w10 ⟨A10, c10, rfl, i10, hb10⟩; have I10 := Lib.hid i10; have IF10 : Hid (IntsAt w10 A1 F) := (IF7.out.below BW.out).below hb10; have B10 : Hid (Below V.heap.size V w10) := (B7.out.trans (BW.out.mono B7.out.size)).trans (hb10.mono (B7.out.trans (BW.out.mono B7.out.size)).size); clear i10 hb10)
              | (go_at_call 41; (with_reducible refine (lints_at A10 A1 c10 c1 F.length F rfl _ (by omega) I10.out IF10.out).mono ?_); rintro e w11 ⟨rfl, hb⟩; have B11 : Hid (Below V.heap.size V w11) := B10.out.trans (hb.mono B10.out.size); clear hb)
              | (go_at_call 33; (with_reducible refine (works_true _).mono ?_); rintro e w12 ⟨rfl, hb⟩; have B12 : Hid (Below V.heap.size V w12) := B11.out.trans (hb.mono B11.out.size); clear hb))
            go_ret
            exact ⟨rfl, BV.out.trans (B12.out.mono BV.out.size)⟩
theorem own : ownKnob Try.prog.godebug = none := by kernel_rfl
theorem laidOut : laidOutB Try.prog = true := by kernel_rfl
set_option maxRecDepth 100000 in
theorem contract (H : Type) (enc : TypeId × Value → H) (W : World) (base : Nat) (args : Array Value) (ds gs : List (DataW H)) (before : List MemPlace)
    (hval : ∀ (j : Nat) t v, Try.f10.params[j]? = some t → args[j]? = some v → Value.okWide Try.prog W .any base t v)
    (hW : DataW.Whole enc Try.prog Try.f10.params.toList Rows.reachMoreSpec.vars false W args.toList ds gs before)
    (hsz0 : (DataW.weightsEach Try.prog (Try.f10.params.toList ++ Rows.reachMoreSpec.plain.varTypes Try.prog) (ds ++ gs)).all (· ≤ reachBytes) = true) :
    Calls Try.prog 10 args W fun e W' => ∃ v, e = .returned v ∧ Rows.reachMoreSpec.post enc Try.prog Try.f10 false true false false W args v W' := by
  have hW' := hW
  obtain ⟨p, q, hA0, hV, rfl, hfz, hnd⟩ := hW
  have hA : DataW.TrodAll enc Try.prog W 0 (fun _ => true) true Try.f10.params.toList args.toList ds p := hA0
  have hsz := hsz0
  rw [Try.params10] at hA hval hsz
  obtain ⟨v0, vs0, d0, ds0, p0, q0, hargs, rfl, rfl, h0, r0⟩ := trodAll_cons hA
  obtain ⟨v1, vs1, d1, ds1, p1, q1, rfl, rfl, rfl, h1, r1⟩ := trodAll_cons r0
  obtain ⟨v2, vs2, d2, ds2, p2, q2, rfl, rfl, rfl, h2, r2⟩ := trodAll_cons r1
  obtain ⟨rfl, rfl, rfl⟩ := trodAll_nil r2
  obtain rfl : args = #[v0, v1, v2] := by cases args; simp_all
  obtain ⟨rfl, rfl⟩ := trodVars_none hV
  obtain ⟨A0, c0, l0, rfl, w0, z0⟩ := open_graph_c (hval 0 41 v0 rfl rfl) h0 (size_of hsz (j := 0) rfl rfl)
  obtain ⟨A1, c1, l1, rfl, q1, w1, z1⟩ := open_more_c (hval 1 22 v1 rfl rfl) h1 (size_of hsz (j := 1) rfl rfl)
  obtain ⟨A2, c2, l2, rfl, q2, w2, z2⟩ := open_more_c (hval 2 22 v2 rfl rfl) h2 (size_of hsz (j := 2) rfl rfl)
  clear hA0 hsz hsz0
  simp only [List.append_nil] at hW'
  refine (walk A0 c0 l0 A1 c1 l1 A2 c2 l2 z0 z1 q1 z2 q2 W w0 w1 w2).mono fun e W' ⟨he, hb⟩ => ?_
  subst he
  exact ⟨_, rfl, law_post laidOut (by kernel_rfl) (by kernel_rfl) Try.underlying4 hW' hb rfl⟩

set_option maxRecDepth 100000 in
theorem lifted (os : Os) (started : os.Started) (H : Type) (enc : TypeId × Value → H) :
    ReturnsInHanded {} Try.checked os 10 .any (Rows.reachMoreSpec.pre6 enc Try.prog Try.f10 Rows.reachMoreRow.domain false) (Rows.reachMoreSpec.post enc Try.prog Try.f10 false true false false) := by
  refine returnsInHanded_of_change_sized (C := Try.checked) own started (by kernel_rfl) Try.func10
    (ChangeSpec.witness6 (enc := enc) (C := Try.checked) false ⟨#[], #[.agg #[.slice none 0 0], .slice none 0 0, .slice none 0 0], []⟩ 8 (by kernel_rfl) (by kernel_rfl) (by kernel_rfl) (by kernel_rfl)) ?_
  intro W base args ds gs before hval hW _ hsz _
  exact contract H enc W base args ds gs before hval hW hsz
/-- The row. -/
theorem holds : Rows.ReachMoreSaid :=
  OpenClaim.holds_of_wide 10 Try.f10 rfl rfl rfl rfl rfl rfl rfl ⟨rfl, rfl, rfl, rfl, rfl⟩ rfl rfl rfl rfl rfl (by kernel_rfl) Try.func10 (by kernel_rfl)
    (of_decide_eq_true (by kernel_rfl)) (by unfold Func.isWrapper; first | (rw [if_pos (by decide +kernel)]; kernel_rfl) | (rw [if_neg (by decide +kernel)]; exact ⟨rfl, rfl⟩))
    (fun os started H enc _ => lifted os started H enc)
end Go.Proofs.Ytiocfnpfmilkgaa.reachMore
