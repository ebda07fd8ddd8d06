/- tallowref12.Gone: as the program's. -/
import Derived.Test.YtjlobjgemhapaaaTrRefE
import Derived.Test.YtjlobjgemhapaaaTrWorks
import Derived.Test.YtjlobjgemhapaaaWords
namespace Go.Proofs.Ytjlobjgemhapaaa
set_option maxRecDepth 20000
open Go.RowKit Go.Maps

theorem metF_iff (g : List OB) (white : List Int) (x : Int) : x ∈ metF g [] white white.length ↔ x ∈ white ∧ looksB g x = true := by
  rw [metF_full, meet_mem]; simp
set_option maxHeartbeats 8000000 in
theorem RGone_any {w : World} {A : Option Addr} {c : Nat} {g : List OB} (hg : GAt w A g) (hn : g.length ≤ 900) (hck : checkB g = true) {B : Option Addr} {d : Nat} {l : List Int} (hl : l.length ≤ 1099511627776) (h : IntsAt w B l) (hwf : ∀ x ∈ l, wf64 x) :
    Calls Try.prog 17 #[gV A g.length c, .slice B l.length d] w fun e w' => ∃ A1 c1 A2 c2, e = .returned (.tuple #[.slice A1 (goneL g l).length c1, .slice A2 (markS g (marksL g l)).length c2]) ∧ IntsAt w' A1 (goneL g l) ∧ IntsAt w' A2 (markS g (marksL g l)) ∧ Below w.heap.size w w' := by
  obtain ⟨i0, hi, hz0, hz1, hz2⟩ := info_parts int_info
  have G := Lib.hid hg
  have HB := Lib.hid h
  have WF := Lib.hid hwf
  have CK : Hid (∀ W, Below w.heap.size w W → Calls Try.prog 36 #[gV A g.length c] W fun e w' => e = .returned (.bool true) ∧ Below W.heap.size W w') := fun W hW => by
    have := RCheck_any (c := c) (G.out.below hW) (by omega)
    rwa [hck] at this
  have TH : Hid (∀ W (x : Int), Below w.heap.size w W → wf64 x → Calls Try.prog 37 #[gV A g.length c, iV x] W fun e w' => e = .returned (.bool (looksB g x)) ∧ Below W.heap.size W w') := fun W x hW hx => RThere12_any (G.out.below hW) x hx.1 hx.2
  have HA : Hid (∀ W (C : Option Addr) (k : Nat) (S : List Int) (x : Int), S.length ≤ 900 → IntsAt W C S → Calls Try.prog 38 #[.slice C S.length k, iV x] W fun e w' => e = .returned (.bool (decide (x ∈ S))) ∧ Below W.heap.size W w') := fun W C k S x hS hi => (RHas_any (by omega) hi x).mono fun e w' ⟨h1, h2⟩ => ⟨h1, by rw [h2]; exact Below.refl _ _⟩
  have HAs : Hid (∀ W (C : Option Addr) (k : Nat) (S : List Int) (x : Int), S.length ≤ 900 → IntsAt W C S → Calls Try.prog 38 #[.slice C S.length k, iV x] W fun e w' => e = .returned (.bool (decide (x ∈ S))) ∧ w' = W) := fun W C k S x hS hi => RHas_any (by omega) hi x
  have MZ : Hid (∀ (met l : List Int), metF g met l 0 = met) := fun met l => rfl
  have MY : Hid (∀ (met l : List Int) (k : Nat) (x : Int), l[k]? = some x → looksB g x = true → x ∉ metF g met l k → metF g met l (k + 1) = metF g met l k ++ [x]) := fun met l k x => metF_yes
  have MN : Hid (∀ (met l : List Int) (k : Nat) (x : Int), l[k]? = some x → looksB g x = false ∨ x ∈ metF g met l k → metF g met l (k + 1) = metF g met l k) := fun met l k x => metF_no
  have ML : Hid (∀ (met l : List Int) (k : Nat), met.Nodup → (∀ x ∈ met, looksB g x = true) → (metF g met l k).Nodup ∧ (∀ x ∈ metF g met l k, looksB g x = true) ∧ (metF g met l k).length ≤ g.length) := fun met l k h1 h2 => ⟨metF_nodup h1 l k, metF_looks h2 l k, metF_len h1 h2 l k⟩
  have ND0 : Hid (∀ x ∈ ([] : List Int), looksB g x = true) := fun x hx => by cases hx
  have LI : Hid (∀ x, x ∈ metF g [] l l.length ↔ x ∈ l ∧ looksB g x = true) := metF_iff g l
  have LR : Hid (∀ x ∈ metF g [] l l.length, 1 ≤ x ∧ x ≤ g.length) := fun x hx => looks_range ((LI.out x).1 hx).2
  have MA : Hid (∀ (k : Nat) (o : OB), g[k]? = some o → markG g ((k : Int) + 1) = o.mark) := fun k o ho => markG_at ho
  obtain ⟨p, hp⟩ : ∃ p : Int → Bool, ∀ x, p x = decide (x ∈ metF g [] l l.length) := ⟨fun x => decide (x ∈ metF g [] l l.length), fun _ => rfl⟩
  have LN : (metF g [] l l.length).length ≤ g.length := metF_len List.nodup_nil ND0.out l l.length
  have FR : Hid (∀ (W : World) (B : Option Addr) (d : Nat) (v : Value) (M : List Int) (lo : Nat), Below w.heap.size w W → w.heap.size ≤ lo → lo ≤ W.heap.size → ApartI W B (metF g [] l l.length) v → M.Nodup → (∀ x ∈ M, x ∈ metF g [] l l.length) → W.ownsRow lo 3 1 v M.length (M.map (Value.int .i64)) →
      Calls Try.prog 48 #[gV A g.length c, .slice B (metF g [] l l.length).length d, v] W fun e w' => ∃ v', e = .returned v' ∧ w'.ownsRow lo 3 1 v' (followF g p (g.length + 1) 0 M).length ((followF g p (g.length + 1) 0 M).map (Value.int .i64)) ∧ Below lo W w' ∧ ApartI w' B (metF g [] l l.length) v') := fun W B d v M lo hW h1 h2 h3 h5 h6 h4 =>
    RFrom_any hg hn (by omega) hp h1 hW h2 h3 h4 h5 (fun x hx => by rw [hp]; exact decide_eq_true (h6 x hx)) (fun x hx => ((LI.out x).1 hx).2) (fun i o m ho => from_meet (fun x hx => ⟨hck, ((LI.out x).1 hx).2⟩) hp i o m ho)
  have RL : Hid (∀ M : List Int, M.Nodup → (∀ x ∈ M, x ∈ metF g [] l l.length) → (followF g p (g.length + 1) 0 M).length ≤ 1099511627776) := fun M h1 h2 => by
    have h := followF_spec (g := g) (whom := p) (first := M) (fun n h => by
      have := h.whom
      rw [hp, decide_eq_true_iff] at this
      exact LR.out n this) (g.length + 1) 0 M (by omega) (Nat.zero_le _) h1 (fun n hn => .root hn (by rw [hp]; exact decide_eq_true (h2 n hn))) (fun n hn _ => hn) (fun j n x hj => absurd hj (Nat.not_lt_zero _))
    have : (followF g p (g.length + 1) 0 M).length ≤ g.length := nums_short h.1 fun x hx => LR.out x (by have := ((h.2 x).1 hx).whom; rwa [hp, decide_eq_true_iff] at this)
    omega
  have BU : Hid (∀ (W : World) (B C : Option Addr) (d e9 : Nat) (M : List Int), M = markS g (marksL g l) → IntsAt W B (metF g [] l l.length) → IntsAt W C (followF g p (g.length + 1) 0 M) → M.Nodup → (∀ x ∈ M, x ∈ metF g [] l l.length) → Calls Try.prog 47 #[gV A g.length c, .slice B (metF g [] l l.length).length d, .slice C (followF g p (g.length + 1) 0 M).length e9] W (GivesInts (goneL g l) W)) := fun W B C d e9 M hM hi hj h1 h2 => by
    have := RBut_any (A := A) (c := c) (g := g) (d := d) (e9 := e9) hn (by omega) (RL.out M h1 h2) hi hj
    rwa [gone_but hn LI.out hM hp] at this
  have SD : Hid (∀ M, Sofar g (metF g [] l l.length) M → Best g (metF g [] l l.length) M g.length 0 → M = markS g (marksL g l)) := fun M h1 h2 => h1.done LI.out h2
  have SM : Hid (∀ M b, Sofar g (metF g [] l l.length) M → Best g (metF g [] l l.length) M g.length b → b ≠ 0 → Sofar g (metF g [] l l.length) (M ++ [b])) := fun M b h1 h2 h3 => h1.more LR.out h2 h3
  have SN : Hid (∀ M, Sofar g (metF g [] l l.length) M → M.length ≤ g.length) := fun M h1 => h1.len LR.out
  clear h hwf hp hg hck
  generalize goneL g l = Gn at *
  generalize markS g (marksL g l) = Mk at *
  generalize followF g p (g.length + 1) 0 = fr at *
  generalize hmF : metF g = mF at *
  generalize looksB g = lk at *
  generalize hN : g.length = n at *
  generalize hnl : l.length = nl at *
  go_enter Try.func17, Try.ntmps17
  go_upto_region 3 with (go_at_call 36; (with_reducible refine (CK.out _ (by first | exact (Below.refl _ _).alloc (Nat.le_refl _) _ | exact Below.refl _ _)).mono ?_); rintro e V ⟨rfl, hb⟩; have BV := Lib.hid (below_box hb); have xV := boxed hb (j := 0) rfl; clear hb)
  have zV : w.heap.size < V.heap.size := World.block_lt_of_cell? V _ xV
  have CX : Hid (∀ W, Below V.heap.size V W → W.cell? ⟨w.heap.size, 0, none⟩ = some (.slice A n c)) := fun W hW => (hW.cell (p := ⟨w.heap.size, 0, none⟩) zV).trans xV
  go_wp2_with fail
  go_loopg [6, 8] nl (fun gg s5 s6 wr => ∃ k : Nat, k ≤ nl ∧ nl - k ≤ gg ∧ s6 = .int .i64 k ∧ Hid (wr.ownsRow V.heap.size 3 1 s5 (mF [] l k).length ((mF [] l k).map (Value.int .i64))) ∧ Hid (Below V.heap.size V wr))
  case atStart => exact ⟨0, Nat.zero_le _, by omega, rfl, (show World.ownsRow _ _ _ _ _ _ _ by rw [MZ.out]; exact World.ownsRow_nil _ _ _ _), Below.refl _ _⟩
  case round =>
    obtain ⟨k, hk, hgg, rfl, O, BR⟩ := hrel
    have BW : Hid (Below w.heap.size w wr) := BV.out.trans (BR.out.mono BV.out.size)
    obtain ⟨ND, LKS, LEN⟩ := ML.out [] l k List.nodup_nil ND0.out
    by_cases hlt : k < nl
    · obtain ⟨x, hx⟩ : ∃ x, l[k]? = some x := ⟨_, List.getElem?_eq_getElem (by rw [hnl]; exact hlt)⟩
      obtain ⟨ad, e, hal, hcx⟩ := (HB.out.below BW.out) k x hx
      subst e
      have hl2 : (ad.add k).block < wr.heap.size := by rw [Go.ChangeShapes.block_add]; exact hal
      have hwx := WF.out x (List.mem_of_getElem? hx)
      obtain ⟨A5, c5, rfl, i5⟩ := ints_of_own O.out
      have x0 := CX.out wr BR.out
      have r0 := fun d os => cell_regrown x0 d os
      have r1 := fun d os => cell_regrown hcx d os
      have ct := fun d os => Calls.regrown_of (TH.out (Go.Sort.grow (redrawn wr d) os) x (BW.out.trans ((below_regrown wr d os).mono BW.out.size)) hwx)
      have ch := fun d os => Calls.regrown_of (HA.out (Go.Sort.grow (redrawn wr d) os) A5 c5 (mF [] l k) x (by omega) (i5.below (below_regrown wr d os)))
      have MYx := MY.out [] l k x hx
      have MNx := MN.out [] l k x hx
      clear hx i5 ND LKS
      cases hq : lk x with
      | false =>
        rw [hq] at ct
        have E1 := Lib.hid (MNx (.inl hq))
        clear ch MYx MNx hq
        go_wp2_with fail
        refine wp_region_quiet_below (by kernel_rfl) (by kernel_rfl) ?_
        repeat (go_big_quiet_step (with_reducible exact ct _ _))
        refine wpQuiet_nil ?_
        intro w3 ⟨⟨dq, osq⟩, hw3⟩
        have B3 : Hid (Below wr.heap.size wr w3) := by rw [hw3]; exact below_regrown wr dq osq
        clear hw3 r0 r1 ct
        go_wp2_with fail
        go_roundg (nl - (k + 1))
        case measure => omega
        case rel => exact ⟨k + 1, by omega, by omega, by go_num, (show World.ownsRow _ _ _ _ _ _ _ by rw [E1.out]; exact own_below O.out B3.out), BR.out.trans (B3.out.mono BR.out.size)⟩
      | true =>
        rw [hq] at ct
        by_cases hm : x ∈ mF [] l k
        · rw [decide_eq_true hm] at ch
          have E1 := Lib.hid (MNx (.inr hm))
          clear MYx MNx hq hm
          go_wp2_with fail
          refine wp_region_quiet_below (by kernel_rfl) (by kernel_rfl) ?_
          repeat (go_big_quiet_step (first | (with_reducible exact ct _ _) | (with_reducible exact ch _ _)))
          refine wpQuiet_nil ?_
          intro w3 ⟨⟨dq, osq⟩, hw3⟩
          have B3 : Hid (Below wr.heap.size wr w3) := by rw [hw3]; exact below_regrown wr dq osq
          clear hw3 r0 r1 ct ch
          go_wp2_with fail
          go_roundg (nl - (k + 1))
          case measure => omega
          case rel => exact ⟨k + 1, by omega, by omega, by go_num, (show World.ownsRow _ _ _ _ _ _ _ by rw [E1.out]; exact own_below O.out B3.out), BR.out.trans (B3.out.mono BR.out.size)⟩
        · rw [decide_eq_false hm] at ch
          have E1 := Lib.hid (MYx hq hm)
          clear MYx MNx hq hm
          go_wp2_with fail
          refine wp_region_quiet_below (by kernel_rfl) (by kernel_rfl) ?_
          repeat (go_big_quiet_step (first | (with_reducible exact ct _ _) | (with_reducible exact ch _ _)))
          refine wpQuiet_nil ?_
          intro w3 ⟨⟨dq, osq⟩, hw3⟩
          have B3 : Hid (Below wr.heap.size wr w3) := by rw [hw3]; exact below_regrown wr dq osq
          clear hw3 r0 r1 ct ch
          have q1 := (B3.out.cell (p := ad.add k) hl2).trans hcx
          have O3 := Lib.hid (own_below O.out B3.out)
          have BR3 : Hid (Below V.heap.size V w3) := BR.out.trans (B3.out.mono BR.out.size)
          have hb3 := BR3.out.size
          go_wp2_with (at_builtin; refine wpList_append_own_at _ rfl (.tmp 36) (.tmp 41) _ rfl V.heap.size 3 i0 _ 1 8 Try.underlying25 hi hz0 hz1 hz2 rfl (by decide) _ _ _ rfl (O3.out.alloc _) ⟨w3.heap.size, 0, none⟩ 1 1 [.int .i64 x] rfl rfl one_cell (by simp [Value.oneCell']) (by unfold maxLen; omega) (by omega) (by simp; omega) ?_; intro v' w8 hown8 hg8 _ at8)
          have O8 : Hid (w8.ownsRow V.heap.size 3 1 v' (mF [] l (k + 1)).length ((mF [] l (k + 1)).map (Value.int .i64))) := (show World.ownsRow _ _ _ _ _ _ _ by rw [E1.out, List.length_append, List.map_append]; exact hown8)
          have B8 : Hid (Below V.heap.size V w8) := (BR3.out.alloc BR3.out.size _).grown hg8 (by simp; omega) (fun b hb => (O3.out.lt b hb).1)
          clear hown8 hg8 at8
          go_roundg (nl - (k + 1))
          case measure => omega
          case rel => exact ⟨k + 1, by omega, by omega, by go_num, O8.out, B8.out⟩
    · have hkn : k = nl := by omega
      obtain rfl := hkn.symm
      obtain ⟨A9, c9, e9, i9⟩ := ints_of_own O.out
      subst e9
      obtain ⟨V1, rfl⟩ : ∃ V1, V1 = wr := ⟨_, rfl⟩
      have I9 := Lib.hid i9
      have BRw := BR
      have BWw := BW
      clear O ND LKS LEN hk hgg i9 MZ MY MN ML ND0 HB WF TH CK HA BW BR
      generalize mF [] l nl = S at *
      have SL : S.length ≤ 900 := by omega
      have zV1 : w.heap.size < V1.heap.size := Nat.lt_of_lt_of_le zV BRw.out.size
      have CX1 : Hid (∀ W, Below V1.heap.size V1 W → W.cell? ⟨w.heap.size, 0, none⟩ = some (.slice A n c)) := fun W hW => (hW.cell (p := ⟨w.heap.size, 0, none⟩) zV1).trans (CX.out V1 BRw.out)
      go_wp2_with fail
      clear hlt
      go_loopg [7, 9, 10] (n + 2) (fun gg s7 _ _ wq => ∃ M : List Int, n + 1 - M.length ≤ gg ∧ Hid (Sofar g S M) ∧ Hid (wq.ownsRow V1.heap.size 3 1 s7 M.length (M.map (Value.int .i64))) ∧ Hid (Below V1.heap.size V1 wq))
      case atStart => exact ⟨[], by simp, Sofar.start g S, World.ownsRow_nil _ _ _ _, Below.refl _ _⟩
      case round =>
        obtain ⟨M, hgg, SF, OM, BQ⟩ := hrel
        obtain ⟨G1, rfl⟩ : ∃ G, G = gk := ⟨_, rfl⟩
        obtain ⟨V2, rfl⟩ : ∃ V2, V2 = wr := ⟨_, rfl⟩
        have hML := SN.out M SF.out
        obtain ⟨AM, cM, eM, iM⟩ := ints_of_own OM.out
        subst eM
        have IM := Lib.hid iM
        clear iM
        go_wp2_with fail
        go_loopg [9, 10] n (fun gg s9 s10 wq => ∃ (q : Nat) (b : Int), q ≤ n ∧ n - q ≤ gg ∧ s9 = .int .i64 b ∧ s10 = .int .i64 ((q : Int) + 1) ∧ Hid (Best g S M q b) ∧ Hid (Below V2.heap.size V2 wq))
        case atStart => exact ⟨0, 0, Nat.zero_le _, by omega, rfl, rfl, Best.start g S M, Below.refl _ _⟩
        case round =>
          obtain ⟨q, b, hq, hgg2, rfl, rfl, BE, B2⟩ := hrel
          have B1 : Hid (Below V1.heap.size V1 wr) := BQ.out.trans (B2.out.mono BQ.out.size)
          have x0 := CX1.out wr B1.out
          by_cases hlt2 : q < n
          · obtain ⟨o, ho⟩ : ∃ o, g[q]? = some o := ⟨_, List.getElem?_eq_getElem (by rw [hN]; exact hlt2)⟩
            have hBw : Hid (Below w.heap.size w wr) := BWw.out.trans (B1.out.mono BWw.out.size)
            obtain ⟨a, sA, sc, e, hal, ⟨o0, o1, o2, o3, o4⟩, hs⟩ := (G.out.below hBw.out) q o ho
            subst e
            have hl2 : (a.add (q * 5)).block < wr.heap.size := by rw [Go.ChangeShapes.block_add]; exact hal
            have mq := MA.out q o ho
            have e1 : IntKind.i64.wrap ((q : Int) + 1 - 1) = (q : Int) := (IntWalk.i64_in _ (by omega)).trans (by omega)
            have e5 : IntKind.i64.wrap (q : Int) = (q : Int) := IntWalk.i64_in _ (by omega)
            have e4 : (q : Int) < (n : Int) := by omega
            have e6 : (q : Int) + 1 ≤ (n : Int) := by omega
            have CL : Hid (∀ t : Nat, Calls Try.prog 38 #[.slice A9 S.length c9, iV ((q : Int) + 1)] (wr.drewN t) fun e w' => e = .returned (.bool (decide ((q : Int) + 1 ∈ S))) ∧ w' = wr.drewN t) := fun t => HAs.out _ A9 c9 S _ SL (I9.out.below (below_drewN B1.out _))
            have CM : Hid (∀ t : Nat, Calls Try.prog 38 #[.slice AM M.length cM, iV ((q : Int) + 1)] (wr.drewN t) fun e w' => e = .returned (.bool (decide ((q : Int) + 1 ∈ M))) ∧ w' = wr.drewN t) := fun t => HAs.out _ AM cM M _ (by omega) (IM.out.below (below_drewN B2.out _))
            have CB : canB g S M ((q : Int) + 1) = (decide ((q : Int) + 1 ∈ S) && (!decide ((q : Int) + 1 ∈ M) && decide (0 < o.mark))) := by unfold canB; rw [mq]
            clear o0 o1 o2 o3 hs ho
            cases hS : decide ((q : Int) + 1 ∈ S) with
            | false =>
              have BN := Lib.hid (BE.out.no (by rw [CB, hS]; rfl))
              rw [hS] at CL
              clear CM CB hS o4 mq
              go_wp2_with fail
              go_quiet ((go_at_call 38; exact Calls.quiet_of_same (CL.out _)))
              go_wp2_with fail
              go_roundg (n - (q + 1))
              case measure => omega
              case rel => exact ⟨q + 1, b, by omega, by omega, rfl, by go_num, BN.out, below_drewN B2.out _⟩
            | true =>
              cases hM : decide ((q : Int) + 1 ∈ M) with
              | true =>
                have BN := Lib.hid (BE.out.no (by rw [CB, hS, hM]; rfl))
                rw [hS] at CL
                rw [hM] at CM
                clear CB hS hM o4 mq
                go_wp2_with fail
                go_quiet ((go_at_call 38; first | (with_reducible exact Calls.quiet_of_same (CL.out _)) | (with_reducible exact Calls.quiet_of_same (CM.out _))))
                go_wp2_with fail
                go_roundg (n - (q + 1))
                case measure => omega
                case rel => exact ⟨q + 1, b, by omega, by omega, rfl, by go_num, BN.out, below_drewN B2.out _⟩
              | false =>
                rw [hS, hM] at CB
                rw [hS] at CL
                rw [hM] at CM
                clear hS hM
                by_cases h0 : 0 < o.mark
                · have CB1 : canB g S M ((q : Int) + 1) = true := by rw [CB, decide_eq_true h0]; rfl
                  have dm : decide (0 < o.mark) = true := decide_eq_true h0
                  by_cases hb : b = 0
                  · subst hb
                    have BN := Lib.hid (BE.out.first CB1)
                    clear CB CB1 mq
                    go_wp2_with fail
                    go_quiet ((go_at_call 38; first | (with_reducible exact Calls.quiet_of_same (CL.out _)) | (with_reducible exact Calls.quiet_of_same (CM.out _))))
                    go_wp2_with fail
                    go_roundg (n - (q + 1))
                    case measure => omega
                    case rel => exact ⟨q + 1, (q : Int) + 1, by omega, by omega, rfl, by go_num, BN.out, below_drewN B2.out _⟩
                  · obtain ⟨hb1, hb2⟩ := BE.out.at_ hb
                    obtain ⟨j, hj⟩ : ∃ j : Nat, b = (j : Int) + 1 := ⟨(b - 1).toNat, by omega⟩
                    subst hj
                    have hjn : j < n := by omega
                    obtain ⟨o', ho'⟩ : ∃ o', g[j]? = some o' := ⟨_, List.getElem?_eq_getElem (by rw [hN]; exact hjn)⟩
                    obtain ⟨a', sA', sc', e, hal', ⟨p0, p1, p2, p3, p4⟩, hs'⟩ := (G.out.below hBw.out) j o' ho'
                    have e := Option.some.inj e
                    subst e
                    have hl3 : (a.add (j * 5)).block < wr.heap.size := by rw [Go.ChangeShapes.block_add]; exact hal
                    have mj := MA.out j o' ho'
                    have f1 : IntKind.i64.wrap ((j : Int) + 1 - 1) = (j : Int) := (IntWalk.i64_in _ (by omega)).trans (by omega)
                    have f5 : IntKind.i64.wrap (j : Int) = (j : Int) := IntWalk.i64_in _ (by omega)
                    have f4 : (j : Int) < (n : Int) := by omega
                    have g1 : ((j : Int) + 1 == 0) = false := by simp; omega
                    have g2 : decide ((j : Int) + 1 = 0) = false := by simp; omega
                    clear p0 p1 p2 p3 hs' ho' hal' CB
                    by_cases hmm : o'.mark < o.mark
                    · have BN := Lib.hid (BE.out.more hb CB1 (by rw [mq, mj]; exact hmm))
                      have dmm : decide (o'.mark < o.mark) = true := decide_eq_true hmm
                      clear CB1 mq mj BE hb
                      go_wp2_with fail
                      go_quiet ((go_at_call 38; first | (with_reducible exact Calls.quiet_of_same (CL.out _)) | (with_reducible exact Calls.quiet_of_same (CM.out _))))
                      go_wp2_with fail
                      go_roundg (n - (q + 1))
                      case measure => omega
                      case rel => exact ⟨q + 1, (q : Int) + 1, by omega, by omega, rfl, by go_num, BN.out, below_drewN B2.out _⟩
                    · have BN := Lib.hid (BE.out.keep hb (by rw [mq, mj]; exact hmm))
                      have dmm : decide (o'.mark < o.mark) = false := decide_eq_false hmm
                      clear CB1 mq mj BE hb
                      go_wp2_with fail
                      go_quiet ((go_at_call 38; first | (with_reducible exact Calls.quiet_of_same (CL.out _)) | (with_reducible exact Calls.quiet_of_same (CM.out _))))
                      go_wp2_with fail
                      go_roundg (n - (q + 1))
                      case measure => omega
                      case rel => exact ⟨q + 1, (j : Int) + 1, by omega, by omega, rfl, by go_num, BN.out, below_drewN B2.out _⟩
                · have BN := Lib.hid (BE.out.no (by rw [CB, decide_eq_false h0]; rfl))
                  have dm : decide (0 < o.mark) = false := decide_eq_false h0
                  clear CB mq
                  go_wp2_with fail
                  go_quiet ((go_at_call 38; first | (with_reducible exact Calls.quiet_of_same (CL.out _)) | (with_reducible exact Calls.quiet_of_same (CM.out _))))
                  go_wp2_with fail
                  go_roundg (n - (q + 1))
                  case measure => omega
                  case rel => exact ⟨q + 1, b, by omega, by omega, rfl, by go_num, BN.out, below_drewN B2.out _⟩
          · have hqn : q = n := by omega
            obtain rfl := hqn.symm
            have O1 := Lib.hid (own_below OM.out B2.out)
            have hb1 := B1.out.size
            by_cases hb : b = 0
            · subst hb
              have hMk := SD.out M SF.out BE.out
              subst hMk
              have HND := Lib.hid SF.out.nodup
              have HSB : Hid (∀ x ∈ M, x ∈ S) := fun x hx => (SF.out.sub x hx).1
              have IMr := Lib.hid (IM.out.below B2.out)
              have IS := Lib.hid (I9.out.below B1.out)
              have hBw : Hid (Below w.heap.size w wr) := BWw.out.trans (B1.out.mono BWw.out.size)
              have hz9 : w.heap.size < wr.heap.size := Nat.lt_of_lt_of_le zV1 B1.out.size
              clear BE SF hgg hq hgg2 I9 IM B2 BQ OM hlt2 CX
              go_upto_region 19 with (at_builtin; refine wpList_append_any _ rfl (.tmp 97) (.tmp 98) 25 rfl wr.heap.size 3 i0 _ 1 8 Try.underlying25 hi hz0 hz1 hz2 rfl (by decide) (.slice none 0 0) 0 [] rfl (World.ownsRow_nil _ _ _ _) wr.heap.size AM M.length cM (M.map (Value.int .i64)) rfl (Reads.of_own O1.out) (by simp [Value.oneCell']) (by unfold maxLen; omega) (by omega) (Nat.le_refl _) ?_; intro v8 w8 hown8 hg8 _)
              have O8 : Hid (w8.ownsRow wr.heap.size 3 1 v8 M.length (M.map (Value.int .i64))) := (show World.ownsRow _ _ _ _ _ _ _ by simpa using hown8)
              have B8 : Hid (Below wr.heap.size wr w8) := (Below.refl _ _).grown hg8 (Nat.le_refl _) (fun b hb => by simp [Value.ownBlock] at hb)
              have x8 := (B8.out.cell (p := ⟨w.heap.size, 0, none⟩) hz9).trans x0
              have FRW : Hid (∀ W, Below w8.heap.size w8 W → Calls Try.prog 48 #[gV A n c, .slice A9 S.length c9, v8] W fun e w' => ∃ v', e = .returned v' ∧ w'.ownsRow wr.heap.size 3 1 v' (fr M).length ((fr M).map (Value.int .i64)) ∧ Below wr.heap.size W w' ∧ ApartI w' A9 S v') := fun W hW => by
                have hv := O8.out.lt
                have hW1 : Below wr.heap.size wr W := B8.out.trans (hW.mono B8.out.size)
                refine FR.out W A9 c9 v8 M wr.heap.size (hBw.out.trans (hW1.mono hBw.out.size)) hBw.out.size hW1.size (fun i x hx => ?_) HND.out HSB.out (own_below O8.out hW)
                obtain ⟨ad, e, hl, hc⟩ := IS.out i x hx
                refine ⟨ad, e, Nat.lt_of_lt_of_le hl hW1.size, fun e3 => by have := (hv _ e3).1; omega, ?_⟩
                exact (hW1.cell (p := ad.add i) (by rw [Go.ChangeShapes.block_add]; exact hl)).trans hc
              clear hown8 hg8 O1
              go_region_law (first
                | (go_simp; go_at_call 48
                   (refine Calls.mono (FRW.out _ ?_) ?_)
                   · first | exact Below.refl _ _ | exact (Below.refl _ _).drew
                   rintro e w9 ⟨v9, rfl, ho9, hb9, ha9⟩
                   obtain ⟨A7, c7, e7, i7⟩ := ints_of_own ho9
                   subst e7
                   have x9 : w9.cell? ⟨w.heap.size, 0, none⟩ = some (.slice A n c) := (hb9.cell (p := ⟨w.heap.size, 0, none⟩) hz9).trans x8)
                | (go_simp; go_at_call 47
                   (refine Calls.mono (BU.out _ _ _ _ _ M rfl ha9.ints i7 HND.out HSB.out) ?_)
                   rintro e w10 ⟨v10, rfl, ho10, hb10⟩))
              all_goals
                have HB9 : Below wr.heap.size w8 w9 := ⟨hb9.os, hb9.tape, hb9.output, hb9.size, hb9.block⟩
                have F9 : Hid (Below wr.heap.size wr w9) := B8.out.trans HB9
                have F10 : Hid (Below wr.heap.size wr w10) := F9.out.trans (hb10.mono F9.out.size)
                obtain ⟨A6, c6, e6, i6⟩ := ints_of_own ho10
                subst e6
                have I6 := Lib.hid i6
                clear hb9 hb10 ho9 ho10 ha9 i7 i6 HB9
                go_wp2_with fail
                go_ret2
                exact ⟨A6, c6, AM, ⟨cM, rfl⟩, I6.out, IMr.out.below F10.out, hBw.out.trans (F10.out.mono hBw.out.size)⟩
            · have S2 := Lib.hid (SM.out M b SF.out BE.out hb)
              have hl9 := SN.out _ S2.out
              rw [List.length_append] at hl9
              simp only [List.length_singleton] at hl9
              clear BE SF
              go_wp2_with (at_builtin; refine wpList_append_own _ rfl (.tmp 93) (.tmp 95) _ rfl V1.heap.size 3 i0 _ 1 8 Try.underlying25 hi hz0 hz1 hz2 rfl (by decide) _ _ _ rfl (O1.out.alloc _) ⟨wr.heap.size, 0, none⟩ 1 1 [.int .i64 b] rfl rfl one_cell (by simp [Value.oneCell']) (by unfold maxLen; omega) (by omega) (by simp; omega) ?_; intro v' w8 hown8 hg8 _)
              have O8 : Hid (w8.ownsRow V1.heap.size 3 1 v' (M ++ [b]).length ((M ++ [b]).map (Value.int .i64))) := (show World.ownsRow _ _ _ _ _ _ _ by rw [List.length_append, List.map_append]; exact hown8)
              have B8 : Hid (Below V1.heap.size V1 w8) := (B1.out.alloc B1.out.size _).grown hg8 (by simp; omega) (fun b hb => (O1.out.lt b hb).1)
              clear hown8 hg8
              go_roundg (n + 1 - (M.length + 1))
              case measure => omega
              case rel => exact ⟨M ++ [b], by simp, S2.out, O8.out, B8.out⟩
theorem RGone_no {w : World} {A : Option Addr} {c : Nat} {g : List OB} (hg : GAt w A g) (hn : g.length ≤ 900) (hck : checkB g = false) (v : Value) :
    Calls Try.prog 17 #[gV A g.length c, v] w fun e w' => e = .returned (.tuple #[.slice none 0 0, .slice none 0 0]) ∧ Below w.heap.size w w' := by
  have CK : Hid (∀ W, Below w.heap.size w W → Calls Try.prog 36 #[gV A g.length c] W fun e w' => e = .returned (.bool false) ∧ Below W.heap.size W w') := fun W hW => by
    have := RCheck_any (c := c) (hg.below hW) (by omega)
    rwa [hck] at this
  clear hg hck
  generalize g.length = n at *
  go_enter Try.func17, Try.ntmps17
  go_wp2_with (go_at_call 36; (with_reducible refine (CK.out _ (by first | exact (Below.refl _ _).alloc (Nat.le_refl _) _ | exact Below.refl _ _)).mono ?_); rintro e w1 ⟨rfl, hb⟩; have B1 := Lib.hid (below_box hb); clear hb)
  go_ret2
  exact ⟨rfl, B1.out⟩
end Go.Proofs.Ytjlobjgemhapaaa
