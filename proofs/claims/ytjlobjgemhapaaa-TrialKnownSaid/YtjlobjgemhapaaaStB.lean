/- StSym: slices.symMergeCmpFunc at ints: where one of the two rows has one element. | StSymM: slices.symMergeCmpFunc at ints: two rows in order are merged, alike ones stay as they stood. -/
import Derived.Test.YtjlobjgemhapaaaOldV
import Derived.Test.YtjlobjgemhapaaaStA
import Derived.Test.YtjlobjgemhapaaaStA
import Derived.Deep.DeepCutAuto
namespace Go.Proofs.Ytjlobjgemhapaaa
set_option maxRecDepth 20000
set_option maxRecDepth 1000000
open Go.Shelf Go.RowKit Go.Lib Go.Sort
variable {α : Type} [Inhabited α]

/-- What a sort is told of its row and of its comparison, once. -/
structure Told (num : α → Int) (cf : α → α → Int) (g : FuncId) (cb : Array Value) (blk : Nat) (d0 : Array α) (w0 : World) : Prop where
  row : Row1 (encN num) w0 blk 0 d0
  cmp : CmpLays1 Try.prog g cb (encN num) cf blk 0 d0.size w0
  enter : ∀ args w, (callFunc g args).run Try.prog w = .ok (.enter g args) w
  order : SWO (ltOf cf)
/-- A world of the sort's in which the row is F. -/
def Now (num : α → Int) (blk n : Nat) (w0 : World) (F : Nat → α) (W : World) : Prop := ∃ dk : Array α, dk.size = n ∧ FA dk = F ∧ SW (encN num) w0 blk 0 dk W
theorem swap_two {num : α → Int} {blk iN jN : Nat} {d0 dk : Array α} {w0 wr : World} {F F' : Nat → α} (R : Row1 (encN num) w0 blk 0 d0) (hs : dk.size = d0.size) (hS : SW (encN num) w0 blk 0 dk wr) (hF : FA dk = F) (hi : iN < dk.size) (hj : jN < dk.size) (hE : swpF F iN jN = F') :
    (wr.cell? ⟨blk, iN, none⟩ = some (.int .i64 (num (F iN))) ∧ wr.cell? ⟨blk, jN, none⟩ = some (.int .i64 (num (F jN))) ∧ wr.frozen? ⟨blk, iN, none⟩ = false ∧ wr.frozen? ⟨blk, jN, none⟩ = false) ∧
    (∃ u, (wr.setCell ⟨blk, iN, none⟩ (.int .i64 (num (F jN)))).cell? ⟨blk, jN, none⟩ = some u) ∧ Now num blk d0.size w0 F' ((wr.setCell ⟨blk, iN, none⟩ (.int .i64 (num (F jN)))).setCell ⟨blk, jN, none⟩ (.int .i64 (num (F iN)))).drew := by
  subst hF
  have ca := hS.c1 R hs iN hi
  have cb := hS.c1 R hs jN hj
  have fa := hS.f1 R hs iN hi
  have fb := hS.f1 R hs jN hj
  have cc := hS.c2 R hs iN jN hi hj (.int .i64 (num (FA dk jN)))
  have S2 := hS.swapped R iN jN hi hj
  simp only [encN, Nat.zero_add] at ca cb fa fb cc S2
  exact ⟨⟨ca, cb, fa, fb⟩, cc, _, (size_swp _ _ _).trans hs, (FA_swp2 hi hj).trans hE, S2⟩
theorem load_two {num : α → Int} {cf : α → α → Int} {g : FuncId} {cb : Array Value} {blk iN : Nat} {d0 : Array α} {w0 wr : World} {F : Nat → α} (T : Told num cf g cb blk d0 w0) (h : Now num blk d0.size w0 F wr) (hi : iN < d0.size) :
    ∀ n os, (grow (wr.drewN n) os).cell? ⟨blk, iN, none⟩ = some (.int .i64 (num (F iN))) := by
  obtain ⟨dk, hd, rfl, hS⟩ := h
  intro n os
  have := hS.cl T.row hd iN (by omega) n os
  rw [Nat.zero_add] at this
  exact this
theorem cmp_two {num : α → Int} {cf : α → α → Int} {g : FuncId} {cb : Array Value} {blk : Nat} {d0 : Array α} {w0 wr : World} {F : Nat → α} (T : Told num cf g cb blk d0 w0) (h : Now num blk d0.size w0 F wr) (x y : α) (n : Nat) (os : Array Obj) :
    Calls Try.prog g (#[.int .i64 (num x), .int .i64 (num y)] ++ cb) (grow (wr.drewN n) os) fun e w' => e = .returned (.int .i64 (cf x y)) ∧ ∃ q os', w' = grow ((grow (wr.drewN n) os).drewN q) os' := by
  obtain ⟨dk, hd, rfl, hS⟩ := h
  exact hS.cmp T.cmp hd x y n os
theorem Now.grown {num : α → Int} {blk m : Nat} {w0 W : World} {F : Nat → α} (h : Now num blk m w0 F W) (n : Nat) (os : Array Obj) : Now num blk m w0 F (grow (W.drewN n) os) := by
  obtain ⟨dk, hd, hF, hS⟩ := h
  exact ⟨dk, hd, hF, hS.grown n os⟩
set_option maxHeartbeats 16000000 in
theorem symOne {num : α → Int} {cf : α → α → Int} {g : FuncId} {cb : Array Value} {blk cap : Nat} {d0 : Array α} {w0 w : World} {F : Nat → α} {R : α → α → Prop} (T : Told num cf g cb blk d0 w0) (hsz : d0.size ≤ 1099511627776) (a b : Nat) (h1 : a + 1 < b) (h2 : b ≤ d0.size) (hN : Now num blk d0.size w0 F w) (hO : Ord (ltOf cf) (a + 1) b F) :
    Calls Try.prog 149 #[.slice (some ⟨blk, 0, none⟩) d0.size cap, .int .i64 a, .int .i64 ((a : Int) + 1), .int .i64 b, .func (.func g) #[] cb] w fun e w' => e = .returned (.tuple #[]) ∧ ∃ F', Merged (ltOf cf) R d0.size a b F F' ∧ Now num blk d0.size w0 F' w' := by
  have T0 := Lib.hid T
  have N0 := Lib.hid hN
  have eg := T.enter
  have FIN : Hid (∀ i, a + 1 ≤ i → i ≤ b → (∀ k, a + 1 ≤ k → k < i → ltOf cf (F k) (F a) = true) → (∀ k, i ≤ k → k < b → ltOf cf (F k) (F a) = false) → Merged (ltOf cf) R d0.size a b F (rotF F a (a + 1) i)) := fun i p1 p2 p3 p4 => ins_up p1 p2 h2 hO p3 p4 T.order
  have LT : Hid (∀ i j x, a + 1 ≤ i → i ≤ j → j < b → ltOf cf (F j) x = true → ltOf cf (F i) x = true) := fun i j x p1 p2 p3 p4 => le_lt_of T.order (hO.le T.order p1 p2 p3) p4
  have GE : Hid (∀ i j x, a + 1 ≤ i → i ≤ j → j < b → ltOf cf (F i) x = false → ltOf cf (F j) x = false) := fun i j x p1 p2 p3 p4 => le_trans_of T.order p4 (hO.le T.order p1 p2 p3)
  have RU : Hid (∀ k, a ≤ k → swpF (rotF F a (a + 1) (k + 1)) k (k + 1) = rotF F a (a + 1) (k + 2)) := fun k hk => rot_up hk
  have R0 : Hid (rotF F a (a + 1) (a + 1) = F) := rot_up0 F a
  clear T hN hO
  have mixed : Try.prog.follows .mixedOrders = true := by kernel_rfl
  have e0 : (a : Int) + 1 - (a : Int) = 1 := by omega
  go_enter Try.func149, Try.ntmps149
  go_wp2_with fail
  go_loopg [10, 11] b (fun gg s10 s11 wr => ∃ i j : Nat, a + 1 ≤ i ∧ i ≤ j ∧ j ≤ b ∧ j - i ≤ gg ∧ s10 = .int .i64 i ∧ s11 = .int .i64 j ∧ Hid (Now num blk d0.size w0 F wr) ∧ Hid ((∀ k, a + 1 ≤ k → k < i → ltOf cf (F k) (F a) = true) ∧ ∀ k, j ≤ k → k < b → ltOf cf (F k) (F a) = false))
  case atStart => exact ⟨a + 1, b, by omega, by omega, by omega, by omega, by go_num, rfl, N0.out, ⟨fun k p1 p2 => by omega, fun k p1 p2 => by omega⟩⟩
  case round =>
    obtain ⟨i, j, hi, hij, hj, hgg, rfl, rfl, NN, II⟩ := hrel
    by_cases hlt : i < j
    · obtain ⟨h, hh⟩ : ∃ h, h = (i + j) / 2 := ⟨_, rfl⟩
      have eh : ((i : Int) + (j : Int)) / 2 = (h : Int) := by omega
      have ph : (0 : Int) ≤ (h : Int) := by omega
      have bh : (h : Int) < (d0.size : Int) := by omega
      have pa : (0 : Int) ≤ (a : Int) := by omega
      have ba : (a : Int) < (d0.size : Int) := by omega
      have lh := load_two T0.out NN.out (iN := h) (by omega)
      have la := load_two T0.out NN.out (iN := a) (by omega)
      have hc := cmp_two T0.out NN.out (F h) (F a)
      have L1 := LT.out
      have G1 := GE.out
      have I1 := II.out
      cases hq : ltOf cf (F h) (F a) with
      | true =>
        have hd : decide (cf (F h) (F a) < 0) = true := hq
        have I2 : Hid ((∀ k, a + 1 ≤ k → k < h + 1 → ltOf cf (F k) (F a) = true) ∧ ∀ k, j ≤ k → k < b → ltOf cf (F k) (F a) = false) := ⟨fun k p1 p2 => L1 k h _ p1 (by omega) (by omega) hq, I1.2⟩
        have HH := Lib.hid hh
        clear hq L1 G1 I1 hh
        go_wp2_with fail
        go_quiet_grown (first | (go_at_fn g; refine Calls.grown_of (hc _ _)))
        have N2 : Hid (Now num blk d0.size w0 F (grow (wr.drewN nq) osq)) := NN.out.grown nq osq
        clear lh la hc
        generalize grow (wr.drewN nq) osq = w2 at N2 ⊢
        clear nq osq
        go_wp2_with fail
        go_roundg (j - (h + 1))
        case measure => have := HH.out; omega
        case rel => have := HH.out; exact ⟨h + 1, j, by omega, by omega, by omega, by omega, by go_num, rfl, N2.out, I2.out⟩
      | false =>
        have hd : decide (cf (F h) (F a) < 0) = false := hq
        have I2 : Hid ((∀ k, a + 1 ≤ k → k < i → ltOf cf (F k) (F a) = true) ∧ ∀ k, h ≤ k → k < b → ltOf cf (F k) (F a) = false) := ⟨I1.1, fun k p1 p2 => G1 h k _ (by omega) p1 p2 hq⟩
        have HH := Lib.hid hh
        clear hq L1 G1 I1 hh
        go_wp2_with fail
        go_quiet_grown (first | (go_at_fn g; refine Calls.grown_of (hc _ _)))
        have N2 : Hid (Now num blk d0.size w0 F (grow (wr.drewN nq) osq)) := NN.out.grown nq osq
        clear lh la hc
        generalize grow (wr.drewN nq) osq = w2 at N2 ⊢
        clear nq osq
        go_wp2_with fail
        go_roundg (h - i)
        case measure => have := HH.out; omega
        case rel => have := HH.out; exact ⟨i, h, by omega, by omega, by omega, by omega, rfl, rfl, N2.out, I2.out⟩
    · have hji : j = i := by omega
      have M0 : Hid (Merged (ltOf cf) R d0.size a b F (rotF F a (a + 1) i)) := FIN.out i hi (by omega) II.out.1 (by rw [← hji]; exact II.out.2)
      have NS : Hid (Now num blk d0.size w0 (rotF F a (a + 1) (a + 1)) wr) := by rw [R0.out]; exact NN.out
      clear hji NN II N0
      go_wp2_with fail
      obtain ⟨G1, rfl⟩ : ∃ G1, G1 = gk := ⟨_, rfl⟩
      go_loopg [13] b (fun g2 s13 w2 => ∃ k : Nat, a ≤ k ∧ k + 1 ≤ i ∧ i - k ≤ g2 ∧ s13 = .int .i64 k ∧ Hid (Now num blk d0.size w0 (rotF F a (a + 1) (k + 1)) w2))
      case atStart => exact ⟨a, Nat.le_refl _, hi, by omega, rfl, NS.out⟩
      case round =>
        obtain ⟨k, hk1, hk2, hg2, rfl, NK⟩ := hrel
        by_cases hlt2 : k + 1 < i
        · have hlz : (k : Int) < (i : Int) - 1 := by omega
          have RK := Lib.hid (RU.out k hk1)
          obtain ⟨dk, hdk, hF, hS⟩ := NK.out
          obtain ⟨iN, hiN⟩ : ∃ q, q = k := ⟨_, rfl⟩
          obtain ⟨jN, hjN⟩ : ∃ q, q = k + 1 := ⟨_, rfl⟩
          obtain ⟨⟨ca, cb', fa, fb⟩, ⟨u, cc⟩, S2'⟩ := swap_two (iN := iN) (jN := jN) (F' := rotF F a (a + 1) (k + 2)) T0.out.row hdk hS hF (by omega) (by omega) (by rw [hiN, hjN]; exact RK.out)
          have S2 := Lib.hid S2'
          have ea : (k : Int).toNat = iN := by omega
          have pa : (0 : Int) ≤ (k : Int) := by omega
          have ba : (k : Int) < (d0.size : Int) := by omega
          have ra : IntKind.i64.wrap (k : Int) = (k : Int) := by rw [IntKind.wrap_i64]; omega
          have eb : ((k : Int) + 1).toNat = jN := by omega
          have pb : (0 : Int) ≤ (k : Int) + 1 := by omega
          have bb : (k : Int) + 1 < (d0.size : Int) := by omega
          have rb : IntKind.i64.wrap ((k : Int) + 1) = (k : Int) + 1 := by rw [IntKind.wrap_i64]; omega
          obtain ⟨x, hx⟩ : ∃ x, x = num (rotF F a (a + 1) (k + 1) iN) := ⟨_, rfl⟩
          obtain ⟨y, hy⟩ : ∃ y, y = num (rotF F a (a + 1) (k + 1) jN) := ⟨_, rfl⟩
          rw [← hx] at ca S2
          rw [← hy] at cb' cc S2
          clear hS hF hdk S2' hiN hjN hx hy NK RK
          go_wp2_with fail
          go_big_region_o
          clear ca cb' cc fa fb
          generalize ((wr.setCell ⟨blk, iN, none⟩ (.int .i64 y)).setCell ⟨blk, jN, none⟩ (.int .i64 x)).drew = w3 at S2 ⊢
          clear ea eb
          go_wp2_with fail
          go_roundg (i - (k + 1))
          case measure => omega
          case rel => exact ⟨k + 1, by omega, by omega, by omega, by go_num, S2.out⟩
        · have hki : k + 1 = i := by omega
          have hlz : ¬ (k : Int) < (i : Int) - 1 := by omega
          have NI : Hid (Now num blk d0.size w0 (rotF F a (a + 1) i) wr) := by rw [← hki]; exact NK.out
          clear hki NK
          go_wp2_with fail
          refine bodyPost_ret (results_none rfl _ _ _) rfl ?_
          exact ⟨rfl, _, M0.out, NI.out⟩
set_option maxHeartbeats 16000000 in
theorem symLast {num : α → Int} {cf : α → α → Int} {g : FuncId} {cb : Array Value} {blk cap : Nat} {d0 : Array α} {w0 w : World} {F : Nat → α} {R : α → α → Prop} (T : Told num cf g cb blk d0 w0) (hsz : d0.size ≤ 1099511627776) (a m : Nat) (h1 : a + 1 < m) (h2 : m + 1 ≤ d0.size) (hN : Now num blk d0.size w0 F w) (hO : Ord (ltOf cf) a m F) :
    Calls Try.prog 149 #[.slice (some ⟨blk, 0, none⟩) d0.size cap, .int .i64 a, .int .i64 m, .int .i64 ((m : Int) + 1), .func (.func g) #[] cb] w fun e w' => e = .returned (.tuple #[]) ∧ ∃ F', Merged (ltOf cf) R d0.size a (m + 1) F F' ∧ Now num blk d0.size w0 F' w' := by
  have T0 := Lib.hid T
  have N0 := Lib.hid hN
  have eg := T.enter
  have FIN : Hid (∀ i, a ≤ i → i ≤ m → (∀ k, a ≤ k → k < i → ltOf cf (F m) (F k) = false) → (∀ k, i ≤ k → k < m → ltOf cf (F m) (F k) = true) → Merged (ltOf cf) R d0.size a (m + 1) F (rotF F i m (m + 1))) := fun i p1 p2 p3 p4 => ins_down p1 p2 h2 hO p3 p4 T.order
  have LT : Hid (∀ i j x, a ≤ i → i ≤ j → j < m → ltOf cf x (F i) = true → ltOf cf x (F j) = true) := fun i j x p1 p2 p3 p4 => lt_le_of T.order p4 (hO.le T.order p1 p2 p3)
  have GE : Hid (∀ i j x, a ≤ i → i ≤ j → j < m → ltOf cf x (F j) = false → ltOf cf x (F i) = false) := fun i j x p1 p2 p3 p4 => le_trans_of T.order (hO.le T.order p1 p2 p3) p4
  have RD : Hid (∀ k, k < m → swpF (rotF F (k + 1) m (m + 1)) (k + 1) k = rotF F k m (m + 1)) := fun k hk => rot_down hk
  have R0 : Hid (rotF F m m (m + 1) = F) := rot_down0 F m
  clear T hN hO
  have mixed : Try.prog.follows .mixedOrders = true := by kernel_rfl
  have e0 : ((m : Int) - (a : Int) == 1) = false := by simp; omega
  have e1 : (m : Int) + 1 - (m : Int) = 1 := by omega
  go_enter Try.func149, Try.ntmps149
  go_wp2_with fail
  go_loopg [14, 15] m (fun gg s14 s15 wr => ∃ i j : Nat, a ≤ i ∧ i ≤ j ∧ j ≤ m ∧ j - i ≤ gg ∧ s14 = .int .i64 i ∧ s15 = .int .i64 j ∧ Hid (Now num blk d0.size w0 F wr) ∧ Hid ((∀ k, a ≤ k → k < i → ltOf cf (F m) (F k) = false) ∧ ∀ k, j ≤ k → k < m → ltOf cf (F m) (F k) = true))
  case atStart => exact ⟨a, m, by omega, by omega, by omega, by omega, rfl, rfl, N0.out, ⟨fun k p1 p2 => by omega, fun k p1 p2 => by omega⟩⟩
  case round =>
    obtain ⟨i, j, hi, hij, hj, hgg, rfl, rfl, NN, II⟩ := hrel
    by_cases hlt : i < j
    · obtain ⟨h, hh⟩ : ∃ h, h = (i + j) / 2 := ⟨_, rfl⟩
      have eh : ((i : Int) + (j : Int)) / 2 = (h : Int) := by omega
      have ph : (0 : Int) ≤ (h : Int) := by omega
      have bh : (h : Int) < (d0.size : Int) := by omega
      have pm : (0 : Int) ≤ (m : Int) := by omega
      have bm : (m : Int) < (d0.size : Int) := by omega
      have lh := load_two T0.out NN.out (iN := h) (by omega)
      have lm := load_two T0.out NN.out (iN := m) (by omega)
      have hc := cmp_two T0.out NN.out (F m) (F h)
      have L1 := LT.out
      have G1 := GE.out
      have I1 := II.out
      cases hq : ltOf cf (F m) (F h) with
      | false =>
        have hd : decide (cf (F m) (F h) < 0) = false := hq
        have I2 : Hid ((∀ k, a ≤ k → k < h + 1 → ltOf cf (F m) (F k) = false) ∧ ∀ k, j ≤ k → k < m → ltOf cf (F m) (F k) = true) := ⟨fun k p1 p2 => G1 k h _ p1 (by omega) (by omega) hq, I1.2⟩
        have HH := Lib.hid hh
        clear hq L1 G1 I1 hh
        go_wp2_with fail
        go_quiet_grown (first | (go_at_fn g; refine Calls.grown_of (hc _ _)))
        have N2 : Hid (Now num blk d0.size w0 F (grow (wr.drewN nq) osq)) := NN.out.grown nq osq
        clear lh lm hc
        generalize grow (wr.drewN nq) osq = w2 at N2 ⊢
        clear nq osq
        go_wp2_with fail
        go_roundg (j - (h + 1))
        case measure => have := HH.out; omega
        case rel => have := HH.out; exact ⟨h + 1, j, by omega, by omega, by omega, by omega, by go_num, rfl, N2.out, I2.out⟩
      | true =>
        have hd : decide (cf (F m) (F h) < 0) = true := hq
        have I2 : Hid ((∀ k, a ≤ k → k < i → ltOf cf (F m) (F k) = false) ∧ ∀ k, h ≤ k → k < m → ltOf cf (F m) (F k) = true) := ⟨I1.1, fun k p1 p2 => L1 h k _ (by omega) p1 p2 hq⟩
        have HH := Lib.hid hh
        clear hq L1 G1 I1 hh
        go_wp2_with fail
        go_quiet_grown (first | (go_at_fn g; refine Calls.grown_of (hc _ _)))
        have N2 : Hid (Now num blk d0.size w0 F (grow (wr.drewN nq) osq)) := NN.out.grown nq osq
        clear lh lm hc
        generalize grow (wr.drewN nq) osq = w2 at N2 ⊢
        clear nq osq
        go_wp2_with fail
        go_roundg (h - i)
        case measure => have := HH.out; omega
        case rel => have := HH.out; exact ⟨i, h, by omega, by omega, by omega, by omega, rfl, rfl, N2.out, I2.out⟩
    · have hji : j = i := by omega
      have M0 : Hid (Merged (ltOf cf) R d0.size a (m + 1) F (rotF F i m (m + 1))) := FIN.out i hi (by omega) II.out.1 (by rw [← hji]; exact II.out.2)
      have NS : Hid (Now num blk d0.size w0 (rotF F m m (m + 1)) wr) := by rw [R0.out]; exact NN.out
      have hjm : i ≤ m := by omega
      clear hji NN II N0
      go_wp2_with fail
      obtain ⟨G1, rfl⟩ : ∃ G1, G1 = gk := ⟨_, rfl⟩
      go_loopg [17] m (fun g2 s17 w2 => ∃ k : Nat, i ≤ k ∧ k ≤ m ∧ k - i ≤ g2 ∧ s17 = .int .i64 k ∧ Hid (Now num blk d0.size w0 (rotF F k m (m + 1)) w2))
      case atStart => exact ⟨m, hjm, Nat.le_refl _, by omega, rfl, NS.out⟩
      case round =>
        obtain ⟨k', hk1, hk2, hg2, rfl, NK⟩ := hrel
        by_cases hlt2 : i < k'
        · obtain ⟨k, rfl⟩ : ∃ k, k' = k + 1 := ⟨k' - 1, by omega⟩
          have zk : ((k + 1 : Nat) : Int) = (k : Int) + 1 := by omega
          have hlz : decide ((i : Int) < (k : Int) + 1) = true := decide_eq_true (by omega)
          have hlz2 : (i : Int) < (k : Int) + 1 := by omega
          have RK := Lib.hid (RD.out k (by omega))
          obtain ⟨dk, hdk, hF, hS⟩ := NK.out
          obtain ⟨iN, hiN⟩ : ∃ q, q = k + 1 := ⟨_, rfl⟩
          obtain ⟨jN, hjN⟩ : ∃ q, q = k := ⟨_, rfl⟩
          obtain ⟨⟨ca, cb', fa, fb⟩, ⟨u, cc⟩, S2'⟩ := swap_two (iN := iN) (jN := jN) (F' := rotF F k m (m + 1)) T0.out.row hdk hS hF (by omega) (by omega) (by rw [hiN, hjN]; exact RK.out)
          have S2 := Lib.hid S2'
          have ea : ((k : Int) + 1).toNat = iN := by omega
          have pa : (0 : Int) ≤ (k : Int) + 1 := by omega
          have ba : (k : Int) + 1 < (d0.size : Int) := by omega
          have ra : IntKind.i64.wrap ((k : Int) + 1) = (k : Int) + 1 := by rw [IntKind.wrap_i64]; omega
          have eb : ((k : Int)).toNat = jN := by omega
          have pb : (0 : Int) ≤ (k : Int) := by omega
          have bb : (k : Int) < (d0.size : Int) := by omega
          have rb : IntKind.i64.wrap ((k : Int)) = (k : Int) := by rw [IntKind.wrap_i64]; omega
          obtain ⟨x, hx⟩ : ∃ x, x = num (rotF F (k + 1) m (m + 1) iN) := ⟨_, rfl⟩
          obtain ⟨y, hy⟩ : ∃ y, y = num (rotF F (k + 1) m (m + 1) jN) := ⟨_, rfl⟩
          rw [← hx] at ca S2
          rw [← hy] at cb' cc S2
          clear hS hF hdk S2' hiN hjN hx hy NK RK
          go_wp2_with fail
          go_big_region_o
          clear ca cb' cc fa fb
          generalize ((wr.setCell ⟨blk, iN, none⟩ (.int .i64 y)).setCell ⟨blk, jN, none⟩ (.int .i64 x)).drew = w3 at S2 ⊢
          clear ea eb
          go_wp2_with fail
          go_roundg (k - i)
          case measure => omega
          case rel => exact ⟨k, by omega, by omega, by omega, by first | rfl | go_num, S2.out⟩
        · have hki : k' = i := by omega
          subst hki
          go_wp2_with fail
          refine bodyPost_ret (results_none rfl _ _ _) rfl ?_
          exact ⟨rfl, _, M0.out, NK.out⟩
end Go.Proofs.Ytjlobjgemhapaaa
namespace Go.Proofs.Ytjlobjgemhapaaa
set_option maxRecDepth 20000
set_option maxRecDepth 1000000
open Go.Shelf Go.RowKit Go.Lib Go.Sort
variable {α : Type} [Inhabited α]

theorem Now.drewN {num : α → Int} {blk m : Nat} {w0 W : World} {F : Nat → α} (h : Now num blk m w0 F W) : Now num blk m w0 F W.drew := by
  obtain ⟨dk, hd, hF, hS⟩ := h
  exact ⟨dk, hd, hF, hS.drew⟩
theorem rotate_now {num : α → Int} {cf : α → α → Int} {g : FuncId} {cb : Array Value} {blk cap : Nat} {d0 : Array α} {w0 w : World} {F : Nat → α} {fv : Value} (T : Told num cf g cb blk d0 w0) (hsz : d0.size ≤ 1099511627776) (a m b : Nat) (h1 : a < m) (h2 : m < b) (h3 : b ≤ d0.size) (hN : Now num blk d0.size w0 F w) :
    Calls Try.prog 176 #[.slice (some ⟨blk, 0, none⟩) d0.size cap, .int .i64 a, .int .i64 m, .int .i64 b, fv] w fun e w' => e = .returned (.tuple #[]) ∧ Now num blk d0.size w0 (rotF F a m b) w' := by
  obtain ⟨dk, hd, rfl, hS⟩ := hN
  have := rotate_any (cap := cap) (fv := fv) T.row hd.symm hS (by omega) a m b h1 h2 (by omega)
  rw [hd] at this
  refine this.mono ?_
  rintro e w' ⟨rfl, d', h4, h5, h6⟩
  exact ⟨rfl, d', h4, h5, h6⟩
/-- What the merge promises. -/
def Merges (num : α → Int) (cf : α → α → Int) (g : FuncId) (cb : Array Value) (blk cap : Nat) (d0 : Array α) (w0 : World) (R : α → α → Prop) (K : Nat) : Prop :=
  ∀ (a m b : Nat) (F : Nat → α) (w : World), b - a ≤ K → a < m → m < b → b ≤ d0.size → Now num blk d0.size w0 F w → Ord (ltOf cf) a m F → Ord (ltOf cf) m b F →
    Calls Try.prog 149 #[.slice (some ⟨blk, 0, none⟩) d0.size cap, .int .i64 a, .int .i64 m, .int .i64 b, .func (.func g) #[] cb] w fun e w' => e = .returned (.tuple #[]) ∧ ∃ F', Merged (ltOf cf) R d0.size a b F F' ∧ Now num blk d0.size w0 F' w'
set_option maxHeartbeats 32000000 in
theorem symGen {num : α → Int} {cf : α → α → Int} {g : FuncId} {cb : Array Value} {blk cap : Nat} {d0 : Array α} {w0 w : World} {F : Nat → α} {R : α → α → Prop} (T : Told num cf g cb blk d0 w0) (hsz : d0.size ≤ 1099511627776) {K : Nat} (IH : Merges num cf g cb blk cap d0 w0 R K) (a m b : Nat) (hK : b - a ≤ K + 1) (h1 : a + 1 < m) (h2 : m + 1 < b) (h3 : b ≤ d0.size) (hN : Now num blk d0.size w0 F w) (hA : Ord (ltOf cf) a m F) (hB : Ord (ltOf cf) m b F) :
    Calls Try.prog 149 #[.slice (some ⟨blk, 0, none⟩) d0.size cap, .int .i64 a, .int .i64 m, .int .i64 b, .func (.func g) #[] cb] w fun e w' => e = .returned (.tuple #[]) ∧ ∃ F', Merged (ltOf cf) R d0.size a b F F' ∧ Now num blk d0.size w0 F' w' := by
  have T0 := Lib.hid T
  have N0 := Lib.hid hN
  have IH0 := Lib.hid IH
  have eg := T.enter
  obtain ⟨q1, q2, q3, q4, q5⟩ := sr_le (a := a) (m := m) (b := b) (by omega) (by omega)
  have DOM : Hid (∀ c, s0 a m b ≤ c → c < r0 a m b → a ≤ c ∧ c < m ∧ m ≤ (a + b) / 2 + m - 1 - c ∧ (a + b) / 2 + m - 1 - c < b) := q5
  have CUT : Hid (∀ s, s0 a m b ≤ s → s ≤ r0 a m b → (∀ c, s0 a m b ≤ c → c < s → ltOf cf (F ((a + b) / 2 + m - 1 - c)) (F c) = false) → (∀ c, s ≤ c → c < r0 a m b → ltOf cf (F ((a + b) / 2 + m - 1 - c)) (F c) = true) → Cut (ltOf cf) a m b s F) := fun s p1 p2 p3 p4 => cut_of T.order (by omega) (by omega) hA hB p1 p2 p3 p4
  have GOL : Hid (∀ c c', s0 a m b ≤ c' → c' ≤ c → c < r0 a m b → ltOf cf (F ((a + b) / 2 + m - 1 - c)) (F c) = false → ltOf cf (F ((a + b) / 2 + m - 1 - c')) (F c') = false) := fun c c' p1 p2 p3 p4 => by
    have d1 := q5 c (by omega) p3
    have d2 := q5 c' p1 (by omega)
    exact le_trans_of T.order (le_trans_of T.order (hA.le T.order d2.1 p2 d1.2.1) p4) (hB.le T.order (i := (a + b) / 2 + m - 1 - c) (j := (a + b) / 2 + m - 1 - c') d1.2.2.1 (by omega) d2.2.2.2)
  have GOR : Hid (∀ c c', s0 a m b ≤ c → c ≤ c' → c' < r0 a m b → ltOf cf (F ((a + b) / 2 + m - 1 - c)) (F c) = true → ltOf cf (F ((a + b) / 2 + m - 1 - c')) (F c') = true) := fun c c' p1 p2 p3 p4 => by
    have d1 := q5 c p1 (by omega)
    have d2 := q5 c' (by omega) p3
    exact le_lt_of T.order (hB.le T.order (i := (a + b) / 2 + m - 1 - c') (j := (a + b) / 2 + m - 1 - c) d2.2.2.1 (by omega) d1.2.2.2) (lt_le_of T.order p4 (hA.le T.order d1.1 p2 d2.2.1))
  have HV : Hid (∀ s, Cut (ltOf cf) a m b s F → Halves (ltOf cf) a b s ((a + b) / 2 + m - s) (rotF F s m ((a + b) / 2 + m - s))) := fun s hc => halves_of T.order hA hB hc
  have S0E : Hid (s0 a m b = if (a + b) / 2 < m then (a + b) / 2 + m - b else a) := (rfl : s0 a m b = _)
  have R0E : Hid (r0 a m b = if (a + b) / 2 < m then (a + b) / 2 else m) := (rfl : r0 a m b = _)
  clear T hN hA hB IH q5
  have mixed : Try.prog.follows .mixedOrders = true := by kernel_rfl
  have e0 : ((m : Int) - (a : Int) == 1) = false := by simp; omega
  have e1 : ((b : Int) - (m : Int) == 1) = false := by simp; omega
  obtain ⟨mid, hmid⟩ : ∃ mid, mid = (a + b) / 2 := ⟨_, rfl⟩
  have eh : ((a : Int) + (b : Int)) / 2 = (mid : Int) := by omega
  have hm1 : mid ≤ d0.size := by omega
  have hm2 : a ≤ mid := by omega
  rw [← hmid] at q4 DOM CUT GOL GOR HV S0E R0E
  have HM := Lib.hid hmid
  clear hmid
  obtain ⟨pN, hpN⟩ : ∃ p, p = mid + m - 1 := ⟨_, rfl⟩
  rw [← hpN] at DOM CUT GOL GOR
  have epN : (mid : Int) + (m : Int) - 1 = (pN : Int) := by omega
  have HP := Lib.hid hpN
  clear hpN
  generalize hsa : s0 a m b = sa at *
  generalize hra : r0 a m b = ra at *
  clear hsa hra
  go_enter Try.func149, Try.ntmps149
  go_upto_if 140 with fail
  go_cut [20, 21] (fun s20 s21 wx => wx = w ∧ s20 = .int .i64 sa ∧ s21 = .int .i64 ra)
  case first =>
    as_aux_lemma =>
      by_cases hmm : mid < m
      · have z1 : (mid : Int) < (m : Int) := by omega
        have k1 := S0E.out
        have k2 := R0E.out
        rw [if_pos hmm] at k1 k2
        have z2 : (mid : Int) + (m : Int) - (b : Int) = (sa : Int) := by omega
        have K1 := Lib.hid k1
        have K2 := Lib.hid k2
        clear k1 k2
        go_wp2_with fail
        go_meet
        exact ⟨rfl, rfl, by rw [K2.out]⟩
      · have z1 : ¬ (mid : Int) < (m : Int) := by omega
        have k1 := S0E.out
        have k2 := R0E.out
        rw [if_neg hmm] at k1 k2
        have K1 := Lib.hid k1
        have K2 := Lib.hid k2
        clear k1 k2
        go_wp2_with fail
        go_meet
        exact ⟨rfl, by rw [K1.out], by rw [K2.out]⟩
  case rest =>
    obtain ⟨rfl, rfl, rfl⟩ := hcut
    go_wp2_with fail
    go_loopg [20, 21] b (fun gg s20 s21 wr => ∃ i j : Nat, sa ≤ i ∧ i ≤ j ∧ j ≤ ra ∧ j - i ≤ gg ∧ s20 = .int .i64 i ∧ s21 = .int .i64 j ∧ Hid (Now num blk d0.size w0 F wr) ∧ Hid ((∀ c, sa ≤ c → c < i → ltOf cf (F (pN - c)) (F c) = false) ∧ ∀ c, j ≤ c → c < ra → ltOf cf (F (pN - c)) (F c) = true))
    case atStart => exact ⟨sa, ra, by omega, by omega, by omega, by omega, rfl, rfl, N0.out, ⟨fun k p1 p2 => by omega, fun k p1 p2 => by omega⟩⟩
    case round =>
      obtain ⟨i, j, hi, hij, hj, hgg, rfl, rfl, NN, II⟩ := hrel
      by_cases hlt : i < j
      · obtain ⟨h, hh⟩ : ∃ h, h = (i + j) / 2 := ⟨_, rfl⟩
        have eh2 : ((i : Int) + (j : Int)) / 2 = (h : Int) := by omega
        have hbd : h ≤ d0.size := by omega
        obtain ⟨d1, d2, d3, d4⟩ := DOM.out h (by omega) (by omega)
        obtain ⟨iN, hiN⟩ : ∃ x, x = pN - h := ⟨_, rfl⟩
        have hpd : pN ≤ 4 * d0.size := by have := HP.out; omega
        have et : (pN : Int) - (h : Int) = (iN : Int) := by omega
        have er : IntKind.i64.wrap (iN : Int) = (iN : Int) := by rw [IntKind.wrap_i64]; omega
        have pt : (0 : Int) ≤ (iN : Int) := by omega
        have bt : (iN : Int) < (d0.size : Int) := by omega
        have ph : (0 : Int) ≤ (h : Int) := by omega
        have bh : (h : Int) < (d0.size : Int) := by omega
        have lh := load_two T0.out NN.out (iN := h) (by omega)
        have lp := load_two T0.out NN.out (iN := iN) (by omega)
        have hc := cmp_two T0.out NN.out (F iN) (F h)
        have L1 := GOL.out
        have G1 := GOR.out
        have I1 := II.out
        cases hq : ltOf cf (F iN) (F h) with
        | false =>
         as_aux_lemma =>
          have hd : decide (cf (F iN) (F h) < 0) = false := hq
          rw [hiN] at hq
          have I2 : Hid ((∀ c, sa ≤ c → c < h + 1 → ltOf cf (F (pN - c)) (F c) = false) ∧ ∀ c, j ≤ c → c < ra → ltOf cf (F (pN - c)) (F c) = true) := ⟨fun c p1 p2 => L1 h c p1 (by omega) (by omega) hq, I1.2⟩
          have HH := Lib.hid hh
          clear hq L1 G1 I1 hh hiN d1 d2 d3 d4
          go_wp2_with fail
          go_quiet_grown (first | (go_at_fn g; refine Calls.grown_of (hc _ _)))
          have N2 : Hid (Now num blk d0.size w0 F (grow (wr.drewN nq) osq)) := NN.out.grown nq osq
          clear lh lp hc
          generalize grow (wr.drewN nq) osq = w2 at N2 ⊢
          clear nq osq et
          go_wp2_with fail
          go_roundg (j - (h + 1))
          case measure => have := HH.out; omega
          case rel => have := HH.out; exact ⟨h + 1, j, by omega, by omega, by omega, by omega, by go_num, rfl, N2.out, I2.out⟩
        | true =>
         as_aux_lemma =>
          have hd : decide (cf (F iN) (F h) < 0) = true := hq
          rw [hiN] at hq
          have I2 : Hid ((∀ c, sa ≤ c → c < i → ltOf cf (F (pN - c)) (F c) = false) ∧ ∀ c, h ≤ c → c < ra → ltOf cf (F (pN - c)) (F c) = true) := ⟨I1.1, fun c p1 p2 => G1 h c (by omega) p1 p2 hq⟩
          have HH := Lib.hid hh
          clear hq L1 G1 I1 hh hiN d1 d2 d3 d4
          go_wp2_with fail
          go_quiet_grown (first | (go_at_fn g; refine Calls.grown_of (hc _ _)))
          have N2 : Hid (Now num blk d0.size w0 F (grow (wr.drewN nq) osq)) := NN.out.grown nq osq
          clear lh lp hc
          generalize grow (wr.drewN nq) osq = w2 at N2 ⊢
          clear nq osq et
          go_wp2_with fail
          go_roundg (h - i)
          case measure => have := HH.out; omega
          case rel => have := HH.out; exact ⟨i, h, by omega, by omega, by omega, by omega, rfl, rfl, N2.out, I2.out⟩
      · have hji : j = i := by omega
        have CC := Lib.hid (CUT.out i hi (by omega) II.out.1 (by rw [← hji]; exact II.out.2))
        have HH := Lib.hid (HV.out i CC.out)
        obtain ⟨c1, c2, c3, c4, -, -⟩ := CC.out
        rw [← HM.out] at c3 c4
        obtain ⟨eN, heN⟩ : ∃ e, e = mid + m - i := ⟨_, rfl⟩
        have eE : (mid : Int) + (m : Int) - (i : Int) = (eN : Int) := by omega
        have EN := Lib.hid heN
        have eB : eN ≤ b := by omega
        have eM : m ≤ eN := by omega
        rw [← heN] at HH
        clear hji II heN c4
        go_upto_region 39 with fail
        go_cut [185] (fun s185 wx => wx = wr ∧ ∃ bb : Bool, s185 = .bool bb ∧ Hid (bb = true → i < m ∧ m < eN) ∧ Hid (bb = false → i = m ∨ m = eN))
        case first =>
          as_aux_lemma =>
            by_cases y1 : i < m
            · have z1 : (i : Int) < (m : Int) := by omega
              by_cases y2 : m < eN
              · have z2 : (m : Int) < (eN : Int) := by omega
                go_wp2_with fail
                go_meet
                exact ⟨rfl, true, rfl, fun _ => ⟨y1, y2⟩, fun h => (by cases h)⟩
              · have z2 : ¬ (m : Int) < (eN : Int) := by omega
                go_wp2_with fail
                go_meet
                exact ⟨rfl, false, rfl, fun h => (by cases h), fun _ => .inr (by omega)⟩
            · have z1 : ¬ (i : Int) < (m : Int) := by omega
              go_wp2_with fail
              go_meet
              exact ⟨rfl, false, rfl, fun h => (by cases h), fun _ => .inl (by omega)⟩
        case rest =>
          obtain ⟨rfl, bb, rfl, hbt, hbf⟩ := hcut
          go_upto_if 185 with fail
          go_cut [191] (fun _ wx => Hid (Now num blk d0.size w0 (rotF F i m eN) wx))
          case first =>
            as_aux_lemma =>
              cases bb with
              | true =>
                obtain ⟨y1, y2⟩ := hbt.out rfl
                have RO := Lib.hid (rotate_now (cap := cap) (fv := .func (.func g) #[] cb) T0.out hsz i m eN y1 y2 (by omega) NN.out)
                clear hbt hbf
                go_wp2_with (go_at_call 176; (with_reducible refine RO.out.mono ?_); rintro e w2 ⟨rfl, hn2⟩; have N2 := Lib.hid hn2; clear hn2)
                go_meet
                exact N2
              | false =>
                have y1 := hbf.out rfl
                have N2 : Hid (Now num blk d0.size w0 (rotF F i m eN) wc) := by rw [rot_triv y1 c2 eM]; exact NN.out
                clear hbt hbf y1
                go_wp2_with fail
                go_meet
                exact N2
          case rest =>
           as_aux_lemma =>
            have N3 := hcut
            clear NN N0
            go_upto_region 41 with fail
            go_cut [199] (fun s199 wx => wx = wc ∧ ∃ bb : Bool, s199 = .bool bb ∧ Hid (bb = true → a < i ∧ i < mid) ∧ Hid (bb = false → a = i ∨ i = mid))
            case first =>
              as_aux_lemma =>
                by_cases y1 : a < i
                · have z1 : (a : Int) < (i : Int) := by omega
                  by_cases y2 : i < mid
                  · have z2 : (i : Int) < (mid : Int) := by omega
                    go_wp2_with fail
                    go_meet
                    exact ⟨rfl, true, rfl, fun _ => ⟨y1, y2⟩, fun h => (by cases h)⟩
                  · have z2 : ¬ (i : Int) < (mid : Int) := by omega
                    go_wp2_with fail
                    go_meet
                    exact ⟨rfl, false, rfl, fun h => (by cases h), fun _ => .inr (by omega)⟩
                · have z1 : ¬ (a : Int) < (i : Int) := by omega
                  go_wp2_with fail
                  go_meet
                  exact ⟨rfl, false, rfl, fun h => (by cases h), fun _ => .inl (by omega)⟩
            case rest =>
              obtain ⟨rfl, bb, rfl, hbt, hbf⟩ := hcut
              go_upto_if 199 with fail
              go_cut [205] (fun _ wx => Hid (∃ H, Now num blk d0.size w0 H wx ∧ Mix a mid (rotF F i m eN) H ∧ Ord (ltOf cf) a mid H ∧ (Tie (ltOf cf) R d0.size (rotF F i m eN) → Tie (ltOf cf) R d0.size H)))
              case first =>
                as_aux_lemma =>
                  cases bb with
                  | true =>
                    obtain ⟨y1, y2⟩ := hbt.out rfl
                    have RO := Lib.hid (IH0.out a i mid (rotF F i m eN) _ (by have := HM.out; omega) y1 y2 hm1 N3.out HH.out.o1 (by have := HH.out.o2; rwa [← HM.out] at this))
                    clear hbt hbf
                    go_wp2_with (go_at_call 149; (with_reducible refine RO.out.mono ?_); rintro e w2 ⟨rfl, F2, hm2', hn2⟩; have N2 : Hid (∃ H, Now num blk d0.size w0 H w2 ∧ Mix a mid (rotF F i m eN) H ∧ Ord (ltOf cf) a mid H ∧ (Tie (ltOf cf) R d0.size (rotF F i m eN) → Tie (ltOf cf) R d0.size H)) := ⟨F2, hn2, hm2'.mix, hm2'.ord, hm2'.tie⟩; clear hm2' hn2)
                    go_meet
                    exact N2
                  | false =>
                    have y1 := hbf.out rfl
                    have N2 : Hid (∃ H, Now num blk d0.size w0 H wc ∧ Mix a mid (rotF F i m eN) H ∧ Ord (ltOf cf) a mid H ∧ (Tie (ltOf cf) R d0.size (rotF F i m eN) → Tie (ltOf cf) R d0.size H)) := by
                      refine ⟨_, N3.out, Mix.refl _ _ _, ?_, id⟩
                      rcases y1 with y1 | y1
                      · have := HH.out.o2
                        rw [← HM.out] at this
                        exact this.sub (by omega) (Nat.le_refl _)
                      · exact HH.out.o1.sub (Nat.le_refl _) (by omega)
                    clear hbt hbf y1
                    go_wp2_with fail
                    go_meet
                    exact N2
              case rest =>
               as_aux_lemma =>
                have N4 := hcut
                clear hbt hbf hcut N3
                go_upto_region 43 with fail
                go_cut [213] (fun s213 wx => wx = wc ∧ ∃ bb : Bool, s213 = .bool bb ∧ Hid (bb = true → mid < eN ∧ eN < b) ∧ Hid (bb = false → mid = eN ∨ eN = b))
                case first =>
                  as_aux_lemma =>
                    have hme : mid ≤ eN := by have := EN.out; omega
                    by_cases y1 : mid < eN
                    · have z1 : (mid : Int) < (eN : Int) := by omega
                      by_cases y2 : eN < b
                      · have z2 : (eN : Int) < (b : Int) := by omega
                        go_wp2_with fail
                        go_meet
                        exact ⟨rfl, true, rfl, fun _ => ⟨y1, y2⟩, fun h => (by cases h)⟩
                      · have z2 : ¬ (eN : Int) < (b : Int) := by omega
                        go_wp2_with fail
                        go_meet
                        exact ⟨rfl, false, rfl, fun h => (by cases h), fun _ => .inr (by omega)⟩
                    · have z1 : ¬ (mid : Int) < (eN : Int) := by omega
                      go_wp2_with fail
                      go_meet
                      exact ⟨rfl, false, rfl, fun h => (by cases h), fun _ => .inl (by omega)⟩
                case rest =>
                  obtain ⟨rfl, bb, rfl, hbt, hbf⟩ := hcut
                  obtain ⟨H, n1, n2, n3, n4⟩ := N4.out
                  have O3 : Ord (ltOf cf) mid eN H := by
                    have := HH.out.o3
                    rw [← HM.out] at this
                    exact this.out n2 (Or.inr (Nat.le_refl _))
                  have O4 : Ord (ltOf cf) eN b H := HH.out.o4.out n2 (Or.inr (by have := EN.out; omega))
                  have MR : Hid (∀ K', Mix mid b H K' → Ord (ltOf cf) mid b K' → (Tie (ltOf cf) R d0.size H → Tie (ltOf cf) R d0.size K') → Merged (ltOf cf) R d0.size a b F K') := fun K' k1 k2 k3 => by
                    have e2 := HM.out
                    have e3 := EN.out
                    have hh := HH.out
                    subst e3
                    subst e2
                    exact merged_of CC.out (by omega) (by omega) h3 hh ⟨n2, n3, n4⟩ ⟨k1, k2, k3⟩
                  cases bb with
                  | true =>
                   as_aux_lemma =>
                    obtain ⟨y1, y2⟩ := hbt.out rfl
                    have RO := Lib.hid (IH0.out mid eN b H _ (by have := HM.out; omega) y1 y2 h3 n1 O3 O4)
                    clear hbt hbf n1 n2 n3 n4 O3 O4 N4
                    go_wp2_with (go_at_call 149; (with_reducible refine RO.out.mono ?_); rintro e w2 ⟨rfl, F2, hm2', hn2⟩; have N2 := Lib.hid hn2; have M2 := Lib.hid hm2'; clear hm2' hn2)
                    refine bodyPost_end (results_none rfl _ _ _) rfl ?_
                    exact ⟨rfl, F2, MR.out F2 M2.out.mix M2.out.ord M2.out.tie, N2.out⟩
                  | false =>
                   as_aux_lemma =>
                    have y1 := hbf.out rfl
                    have OO : Ord (ltOf cf) mid b H := by
                      rcases y1 with y1 | y1
                      · exact O4.sub (by omega) (Nat.le_refl _)
                      · exact O3.sub (Nat.le_refl _) (by omega)
                    have N2 := Lib.hid n1
                    have M2 := Lib.hid (MR.out H (Mix.refl _ _ _) OO id)
                    clear hbt hbf n1 n2 n3 n4 O3 O4 N4 y1 OO
                    go_wp2_with fail
                    refine bodyPost_end (results_none rfl _ _ _) rfl ?_
                    exact ⟨rfl, H, M2.out, N2.out⟩
theorem merges {num : α → Int} {cf : α → α → Int} {g : FuncId} {cb : Array Value} {blk cap : Nat} {d0 : Array α} {w0 : World} {R : α → α → Prop} (T : Told num cf g cb blk d0 w0) (hsz : d0.size ≤ 1099511627776) : ∀ K, Merges num cf g cb blk cap d0 w0 R K
  | 0 => fun a m b F w hK h1 h2 => by omega
  | K + 1 => fun a m b F w hK h1 h2 h3 hN hA hB => by
    by_cases e1 : a + 1 = m
    · subst e1
      have := symOne (cap := cap) (R := R) T hsz a b h2 h3 hN hB
      exact this
    · by_cases e2 : m + 1 = b
      · subst e2
        have := symLast (cap := cap) (R := R) T hsz a m (by omega) h3 hN hA
        exact this
      · exact symGen T hsz (merges T hsz K) a m b (by omega) (by omega) (by omega) h3 hN hA hB
end Go.Proofs.Ytjlobjgemhapaaa
