/- tallowref11.reached. -/
import Derived.Test.YtiocfnpfmilkgaaRcRefA
import Derived.Test.YtiocfnpfmilkgaaRcMarks
import Derived.Deep.RegionLaw
namespace Go.Proofs.Ytiocfnpfmilkgaa
set_option maxRecDepth 20000
open Go.RowKit Go.Maps

theorem run_make_bools0 (n : Nat) (hn : n ≤ 1099511627776) (w : World) : (Instr.makeSlice 82 (.int .i64 (n : Int)) (.int .i64 (n : Int))).run Try.prog w = .ok (.slice (some ⟨w.heap.size, 0, none⟩) n n) (w.alloc (.cells (madeCells #[.bool false] n) 4 (0, 0))) := by
  exact run_make_row' (P := Try.prog) 82 4 (.bool false) 1 Try.underlying82 bool_info rfl .i64 .i64 n (by omega) (by omega) w
theorem objs_slots {g : List OB} (hc : checkB g = true) {i : Nat} {o : OB} (ho : g[i]? = some o) : objsN g o.slots = heldN g (i + 1) := by
  have e := held_at ho
  unfold objsN
  rw [← e]
  exact List.filter_eq_self.2 fun x hx => held_there hc hx
set_option maxHeartbeats 4000000 in
theorem Rreached_any {w : World} {A : Option Addr} {c : Nat} {g : List OB} (hg : GAt w A g) (hc : checkB g = true) (hn : g.length ≤ 900) {B : Option Addr} {d : Nat} {l : List (Int × Int)} (hl : l.length * 16 ≤ 140737488355328) (hB : PairsAt w B l) :
    Calls Try.prog 69 #[gV A g.length c, .slice B l.length d] w fun e w' => ∃ b, e = .returned (.slice (some ⟨b, 0, none⟩) g.length g.length) ∧ RowB w' b g.length (fun i => reachB g (objsN g l) (i + 1)) ∧ w.heap.size ≤ b ∧ Below w.heap.size w w' := by
  have mk := run_make_bools0 g.length (by omega)
  have RO : Hid (∀ b W M, w.heap.size ≤ b → Below w.heap.size w W → RowB W b g.length M → Calls Try.prog 103 #[gV A g.length c, .slice B l.length d, .slice (some ⟨b, 0, none⟩) g.length g.length] W fun e w' => ∃ M1 more, e = .returned (.bool more) ∧ RowB w' b g.length M1 ∧ Adds g.length M (objsN g l) M1 more ∧ Frm (fun k => k = b) W w') := fun b W M h0 h1 h2 => Robjects_any hg hn hl hB h1 h0 h2
  have RS : Hid (∀ (i : Nat) (o : OB), g[i]? = some o → ∀ sA sc, SlotsAt w o sA → ∀ b W M, w.heap.size ≤ b → Below w.heap.size w W → RowB W b g.length M → Calls Try.prog 103 #[gV A g.length c, .slice sA o.slots.length sc, .slice (some ⟨b, 0, none⟩) g.length g.length] W fun e w' => ∃ M1 more, e = .returned (.bool more) ∧ RowB w' b g.length M1 ∧ Adds g.length M (heldN g (i + 1)) M1 more ∧ Frm (fun k => k = b) W w') := fun i o ho sA sc hs b W M h0 h1 h2 => by
    have := Robjects_any (c := c) (d := sc) hg hn (by have := hs.2; omega) hs.1 h1 h0 h2
    rwa [objs_slots hc ho] at this
  have G := Lib.hid hg
  have GET : Hid (∀ i, i < g.length → ∃ p, g[i]? = some p) := fun i hi => ⟨_, List.getElem?_eq_getElem hi⟩
  have FIN : Hid (∀ W b M, RowB W b g.length M → Seen g (objsN g l) M → ClosedTo g M g.length → RowB W b g.length (fun i => reachB g (objsN g l) (i + 1))) := fun W b M h1 h2 h3 => World.rowIs.congr h1 fun i hi => by
    show Value.bool _ = Value.bool _
    rw [h2.fin hc h3 i hi]
  clear hg hB hl hc
  generalize objsN g l = S at *
  generalize l.length = nl at *
  generalize g.length = n at *
  go_enter Try.func69, Try.ntmps69
  go_upto_region 2 with (fail)
  refine at_world (fun V => Below w.heap.size w V ∧ V.cell? ⟨w.heap.size, 0, none⟩ = some (.slice A n c) ∧ RowB V (w.heap.size + 1) n fun _ => false) ?_ fun V0 HV => ?_
  · refine ⟨((Below.refl _ _).alloc (Nat.le_refl _) _).alloc (by simp) _, by simp [go_sem], ?_⟩
    have h := World.rowIs_made (w.alloc (Obj.cells #[Value.slice A n c] 41 (0, 0))) (.bool false) n 4
    have e : (w.alloc (Obj.cells #[Value.slice A n c] 41 (0, 0))).heap.size = w.heap.size + 1 := by simp
    rw [e] at h
    exact h
  obtain ⟨hb, c0, hr⟩ := HV
  have B0 := Lib.hid hb
  have R0 := Lib.hid hr
  have hlt0 := hr.lt
  clear hb hr mk
  have hne : ¬ w.heap.size = w.heap.size + 1 := by omega
  obtain ⟨b, hbb⟩ : ∃ b, b = w.heap.size + 1 := ⟨_, rfl⟩
  have HB := Lib.hid hbb
  have hwb : w.heap.size ≤ b := by omega
  rw [← hbb] at R0 hlt0 hne ⊢
  clear hbb
  go_wp2_with (go_at_call 103; (with_reducible refine (RO.out b _ _ hwb B0.out R0.out).mono ?_); rintro e V ⟨M1, more, rfl, r1, a1, f1⟩; have R1 := Lib.hid r1; have S1 : Hid (Seen g S M1) := Seen.start a1; have C1 : Hid (more = false → ClosedTo g M1 n) := (fun e => by rw [a1.no e]; exact fun j hj hm => by cases hm); have BV : Hid (Below w.heap.size w V) := below_frm B0.out f1 (fun j hj => by have := HB.out; omega); have cV := (f1.cell (p := ⟨w.heap.size, 0, none⟩) (show w.heap.size < _ by have := HB.out; omega) hne).trans c0; have zV : w.heap.size < V.heap.size := (by have := f1.size; have := HB.out; omega); clear r1 a1 f1)
  clear c0 R0 B0 hlt0
  go_loopg [6] (n + 2) (fun gg s6 wr => ∃ (M : Nat → Bool) (more : Bool), s6 = .bool more ∧ (more = true → unN n M < gg) ∧ Hid (RowB wr b n M) ∧ Hid (Seen g S M) ∧ Hid (more = false → ClosedTo g M n) ∧ Hid (Frm (fun x => x = b) V wr))
  case atStart => exact ⟨M1, more, rfl, (fun _ => by have := unN_le n M1; omega), R1.out, S1.out, C1.out, Frm.refl _ _⟩
  case round =>
    clear R1 S1 C1
    obtain ⟨M, mo, rfl, hgg, RR, SS, CC, FF⟩ := hrel
    cases hm : mo with
    | false =>
      have CL := Lib.hid (CC.out hm)
      clear CC hgg hm
      go_wp2_with fail
      go_ret
      exact ⟨b, rfl, FIN.out _ _ _ RR.out SS.out CL.out, by have := HB.out; omega, below_frm BV.out FF.out (fun j hj => by have := HB.out; omega)⟩
    | true =>
      have hgg2 := hgg hm
      obtain ⟨G1, rfl⟩ : ∃ G1, G1 = gk := ⟨_, rfl⟩
      clear CC hgg hm
      go_wp2_with fail
      go_loopg [6, 7] n (fun gg s6 s7 wq => ∃ (i : Nat) (M2 : Nat → Bool) (m2 : Bool), i ≤ n ∧ n - i ≤ gg ∧ s7 = .int .i64 i ∧ s6 = .bool m2 ∧ Hid (RowB wq b n M2) ∧ Hid (Seen g S M2) ∧ Hid (∀ i, M i = true → M2 i = true) ∧ Hid (m2 = false → M2 = M ∧ ClosedTo g M i) ∧ Hid (m2 = true → ∃ i, i < n ∧ M i = false ∧ M2 i = true) ∧ Hid (Frm (fun x => x = b) V wq))
      case atStart => exact ⟨0, M, false, Nat.zero_le _, by omega, rfl, rfl, RR.out, SS.out, (fun _ h => h), (fun _ => ⟨rfl, fun j hj => absurd hj (Nat.not_lt_zero _)⟩), (fun h => by cases h), FF.out⟩
      case round =>
        clear RR SS FF
        obtain ⟨i, M2, m2, hi, hg2, rfl, rfl, RR, SS, SUB, NO, YES, FF⟩ := hrel
        have x0 : wr.cell? ⟨w.heap.size, 0, none⟩ = some (.slice A n c) := (FF.out.cell (p := ⟨w.heap.size, 0, none⟩) zV hne).trans cV
        by_cases hlt : i < n
        · have y0 := World.rowIs.cell RR.out hlt
          have hli : (i : Int) < (n : Int) := by omega
          cases hq : M2 i with
          | false =>
            rw [hq] at y0
            have NO2 : Hid (m2 = false → M2 = M ∧ ClosedTo g M (i + 1)) := (fun e => by
              obtain ⟨h1, h2⟩ := NO.out e
              exact ⟨h1, h2.skip (by rw [← h1]; exact hq)⟩)
            clear hq NO
            replace y0 : wr.cell? ⟨b, i, none⟩ = some (.bool false) := y0
            go_wp2_with fail
            go_quiet (fail)
            go_wp2_with fail
            clear y0
            go_roundg (n - (i + 1))
            case measure => omega
            case rel => exact ⟨i + 1, M2, m2, by omega, by omega, by go_num, rfl, RR.out.below (below_drewN (Below.refl _ _) _), SS.out, SUB.out, NO2.out, YES.out, FF.out.trans (Frm.of_below _ (below_drewN (Below.refl _ _) _))⟩
          | true =>
            rw [hq] at y0
            have HQ := Lib.hid hq
            replace y0 : wr.cell? ⟨b, i, none⟩ = some (.bool true) := y0
            obtain ⟨o, ho⟩ := GET.out i hlt
            obtain ⟨a, sA, sc, e, hal, ⟨o0, o1, o2, o3, o4⟩, hs⟩ := G.out i o ho
            subst e
            have z2 : wr.cell? ⟨(a.add (i * 5)).block, (a.add (i * 5)).off + 2, none⟩ = some (.slice sA o.slots.length sc) := (FF.out.cell (p := ⟨(a.add (i * 5)).block, (a.add (i * 5)).off + 2, none⟩) (show (a.add (i * 5)).block < _ by rw [Go.ChangeShapes.block_add]; omega) (show ¬ (a.add (i * 5)).block = b by rw [Go.ChangeShapes.block_add]; have := HB.out; omega)).trans ((BV.out.cell (p := ⟨(a.add (i * 5)).block, (a.add (i * 5)).off + 2, none⟩) (show (a.add (i * 5)).block < _ by rw [Go.ChangeShapes.block_add]; exact hal)).trans o2)
            have CALL := Lib.hid (RS.out i o ho sA sc hs b wr.drew M2 hwb ((below_frm BV.out FF.out (fun j hj => by have := HB.out; omega)).drew) (World.rowIs.drew RR.out))
            clear o0 o1 o2 o3 o4 hs ho hq hal
            generalize o.slots.length = ns at *
            go_wp2_with fail
            go_region_law (go_simp; go_at_call 103; (with_reducible refine CALL.out.mono ?_); rintro e w8 ⟨M3, m3, rfl, r3, a3, f3⟩)
            all_goals
              have F8 : Hid (Frm (fun x => x = b) V w8) := FF.out.trans ((Frm.refl _ wr).drew.trans f3)
              have R8 := Lib.hid r3
              clear r3 f3 y0 z2 x0 CALL
              cases hm3 : m3 with
              | false =>
                rw [hm3] at a3
                have e3 := a3.no rfl
                rw [e3] at R8 a3
                have NO2 : Hid (m2 = false → M2 = M ∧ ClosedTo g M (i + 1)) := (fun e => by
                  obtain ⟨h1, h2⟩ := NO.out e
                  refine ⟨h1, h2.same (n := n) (b := false) ?_⟩
                  rw [← h1]; exact a3)
                clear hm3 a3 NO e3
                go_wp2_with fail
                go_roundg (n - (i + 1))
                case measure => omega
                case rel => exact ⟨i + 1, M2, m2, by omega, by omega, by go_num, rfl, R8.out, SS.out, SUB.out, NO2.out, YES.out, F8.out⟩
              | true =>
                rw [hm3] at a3
                have S8 : Hid (Seen g S M3) := SS.out.more a3 HQ.out
                have SUB8 : Hid (∀ i, M i = true → M3 i = true) := fun i h => a3.sub i (SUB.out i h)
                have YES8 : Hid (∃ i, i < n ∧ M i = false ∧ M3 i = true) := (show ∃ i, i < n ∧ M i = false ∧ M3 i = true by
                  obtain ⟨q, h1, h2, h3⟩ := a3.yes rfl
                  refine ⟨q, h1, ?_, h3⟩
                  cases e : M q with
                  | false => rfl
                  | true => rw [SUB.out q e] at h2; cases h2)
                clear hm3 a3 NO YES
                go_wp2_with fail
                go_roundg (n - (i + 1))
                case measure => omega
                case rel => exact ⟨i + 1, M3, true, by omega, by omega, by go_num, rfl, R8.out, S8.out, SUB8.out, (fun e => by cases e), (fun _ => YES8.out), F8.out⟩
        · have hin : i = n := by omega
          have CC2 : Hid (m2 = false → ClosedTo g M2 n) := (fun e => by
            obtain ⟨h1, h2⟩ := NO.out e
            rw [h1, ← hin]; exact h2)
          have UN : Hid (m2 = true → unN n M2 < unN n M) := (fun e => unN_less SUB.out (YES.out e))
          clear NO YES hin
          go_wp2_with fail
          go_roundg (G1 - 1)
          case measure => omega
          case rel => exact ⟨M2, m2, rfl, (fun e => by have := UN.out e; omega), RR.out, SS.out, CC2.out, FF.out⟩
end Go.Proofs.Ytiocfnpfmilkgaa
