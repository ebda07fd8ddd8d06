/- slices.symMergeCmpFunc at ints: where one of the two rows has one element. -/
import Derived.Test.YtghnjmodnhnmfaaStMerge
import Derived.Test.YtghnjmodnhnmfaaStSwap
namespace Go.Proofs.Ytghnjmodnhnmfaa
set_option maxRecDepth 1000000
open Go.Shelf Go.RowKit Go.Lib Go.Sort
variable {α : Type} [Inhabited α]

/-- What a sort is told of its row and of its comparison, once. -/
structure Told (num : α → Int) (cf : α → α → Int) (g : FuncId) (cb : Array Value) (blk : Nat) (d0 : Array α) (w0 : World) : Prop where
  row : Row1 (encN num) w0 blk 0 d0
  cmp : CmpLays1 Try.prog g cb (encN num) cf blk 0 d0.size w0
  enter : ∀ args w, (callFunc g args).run Try.prog w = .ok (.enter g args) w
  order : SWO (ltOf cf)
/-- A world of the sort's in which the row is F. -/
def Now (num : α → Int) (blk n : Nat) (w0 : World) (F : Nat → α) (W : World) : Prop := ∃ dk : Array α, dk.size = n ∧ FA dk = F ∧ SW (encN num) w0 blk 0 dk W
theorem swap_two {num : α → Int} {blk iN jN : Nat} {d0 dk : Array α} {w0 wr : World} {F F' : Nat → α} (R : Row1 (encN num) w0 blk 0 d0) (hs : dk.size = d0.size) (hS : SW (encN num) w0 blk 0 dk wr) (hF : FA dk = F) (hi : iN < dk.size) (hj : jN < dk.size) (hE : swpF F iN jN = F') :
    (wr.cell? ⟨blk, iN, none⟩ = some (.int .i64 (num (F iN))) ∧ wr.cell? ⟨blk, jN, none⟩ = some (.int .i64 (num (F jN))) ∧ wr.frozen? ⟨blk, iN, none⟩ = false ∧ wr.frozen? ⟨blk, jN, none⟩ = false) ∧
    (∃ u, (wr.setCell ⟨blk, iN, none⟩ (.int .i64 (num (F jN)))).cell? ⟨blk, jN, none⟩ = some u) ∧ Now num blk d0.size w0 F' ((wr.setCell ⟨blk, iN, none⟩ (.int .i64 (num (F jN)))).setCell ⟨blk, jN, none⟩ (.int .i64 (num (F iN)))).drew := by
  subst hF
  have ca := hS.c1 R hs iN hi
  have cb := hS.c1 R hs jN hj
  have fa := hS.f1 R hs iN hi
  have fb := hS.f1 R hs jN hj
  have cc := hS.c2 R hs iN jN hi hj (.int .i64 (num (FA dk jN)))
  have S2 := hS.swapped R iN jN hi hj
  simp only [encN, Nat.zero_add] at ca cb fa fb cc S2
  exact ⟨⟨ca, cb, fa, fb⟩, cc, _, (size_swp _ _ _).trans hs, (FA_swp2 hi hj).trans hE, S2⟩
theorem load_two {num : α → Int} {cf : α → α → Int} {g : FuncId} {cb : Array Value} {blk iN : Nat} {d0 : Array α} {w0 wr : World} {F : Nat → α} (T : Told num cf g cb blk d0 w0) (h : Now num blk d0.size w0 F wr) (hi : iN < d0.size) :
    ∀ n os, (grow (wr.drewN n) os).cell? ⟨blk, iN, none⟩ = some (.int .i64 (num (F iN))) := by
  obtain ⟨dk, hd, rfl, hS⟩ := h
  intro n os
  have := hS.cl T.row hd iN (by omega) n os
  rw [Nat.zero_add] at this
  exact this
theorem cmp_two {num : α → Int} {cf : α → α → Int} {g : FuncId} {cb : Array Value} {blk : Nat} {d0 : Array α} {w0 wr : World} {F : Nat → α} (T : Told num cf g cb blk d0 w0) (h : Now num blk d0.size w0 F wr) (x y : α) (n : Nat) (os : Array Obj) :
    Calls Try.prog g (#[.int .i64 (num x), .int .i64 (num y)] ++ cb) (grow (wr.drewN n) os) fun e w' => e = .returned (.int .i64 (cf x y)) ∧ ∃ q os', w' = grow ((grow (wr.drewN n) os).drewN q) os' := by
  obtain ⟨dk, hd, rfl, hS⟩ := h
  exact hS.cmp T.cmp hd x y n os
theorem Now.grown {num : α → Int} {blk m : Nat} {w0 W : World} {F : Nat → α} (h : Now num blk m w0 F W) (n : Nat) (os : Array Obj) : Now num blk m w0 F (grow (W.drewN n) os) := by
  obtain ⟨dk, hd, hF, hS⟩ := h
  exact ⟨dk, hd, hF, hS.grown n os⟩
set_option maxHeartbeats 16000000 in
theorem symOne {num : α → Int} {cf : α → α → Int} {g : FuncId} {cb : Array Value} {blk cap : Nat} {d0 : Array α} {w0 w : World} {F : Nat → α} {R : α → α → Prop} (T : Told num cf g cb blk d0 w0) (hsz : d0.size ≤ 1099511627776) (a b : Nat) (h1 : a + 1 < b) (h2 : b ≤ d0.size) (hN : Now num blk d0.size w0 F w) (hO : Ord (ltOf cf) (a + 1) b F) :
    Calls Try.prog 162 #[.slice (some ⟨blk, 0, none⟩) d0.size cap, .int .i64 a, .int .i64 ((a : Int) + 1), .int .i64 b, .func (.func g) #[] cb] w fun e w' => e = .returned (.tuple #[]) ∧ ∃ F', Merged (ltOf cf) R d0.size a b F F' ∧ Now num blk d0.size w0 F' w' := by
  have T0 := Lib.hid T
  have N0 := Lib.hid hN
  have eg := T.enter
  have FIN : Hid (∀ i, a + 1 ≤ i → i ≤ b → (∀ k, a + 1 ≤ k → k < i → ltOf cf (F k) (F a) = true) → (∀ k, i ≤ k → k < b → ltOf cf (F k) (F a) = false) → Merged (ltOf cf) R d0.size a b F (rotF F a (a + 1) i)) := fun i p1 p2 p3 p4 => ins_up p1 p2 h2 hO p3 p4 T.order
  have LT : Hid (∀ i j x, a + 1 ≤ i → i ≤ j → j < b → ltOf cf (F j) x = true → ltOf cf (F i) x = true) := fun i j x p1 p2 p3 p4 => le_lt_of T.order (hO.le T.order p1 p2 p3) p4
  have GE : Hid (∀ i j x, a + 1 ≤ i → i ≤ j → j < b → ltOf cf (F i) x = false → ltOf cf (F j) x = false) := fun i j x p1 p2 p3 p4 => le_trans_of T.order p4 (hO.le T.order p1 p2 p3)
  have RU : Hid (∀ k, a ≤ k → swpF (rotF F a (a + 1) (k + 1)) k (k + 1) = rotF F a (a + 1) (k + 2)) := fun k hk => rot_up hk
  have R0 : Hid (rotF F a (a + 1) (a + 1) = F) := rot_up0 F a
  clear T hN hO
  have mixed : Try.prog.follows .mixedOrders = true := by kernel_rfl
  have e0 : (a : Int) + 1 - (a : Int) = 1 := by omega
  go_enter Try.func162, Try.ntmps162
  go_wp2_with fail
  go_loopg [10, 11] b (fun gg s10 s11 wr => ∃ i j : Nat, a + 1 ≤ i ∧ i ≤ j ∧ j ≤ b ∧ j - i ≤ gg ∧ s10 = .int .i64 i ∧ s11 = .int .i64 j ∧ Hid (Now num blk d0.size w0 F wr) ∧ Hid ((∀ k, a + 1 ≤ k → k < i → ltOf cf (F k) (F a) = true) ∧ ∀ k, j ≤ k → k < b → ltOf cf (F k) (F a) = false))
  case atStart => exact ⟨a + 1, b, by omega, by omega, by omega, by omega, by go_num, rfl, N0.out, ⟨fun k p1 p2 => by omega, fun k p1 p2 => by omega⟩⟩
  case round =>
    obtain ⟨i, j, hi, hij, hj, hgg, rfl, rfl, NN, II⟩ := hrel
    by_cases hlt : i < j
    · obtain ⟨h, hh⟩ : ∃ h, h = (i + j) / 2 := ⟨_, rfl⟩
      have eh : ((i : Int) + (j : Int)) / 2 = (h : Int) := by omega
      have ph : (0 : Int) ≤ (h : Int) := by omega
      have bh : (h : Int) < (d0.size : Int) := by omega
      have pa : (0 : Int) ≤ (a : Int) := by omega
      have ba : (a : Int) < (d0.size : Int) := by omega
      have lh := load_two T0.out NN.out (iN := h) (by omega)
      have la := load_two T0.out NN.out (iN := a) (by omega)
      have hc := cmp_two T0.out NN.out (F h) (F a)
      have L1 := LT.out
      have G1 := GE.out
      have I1 := II.out
      cases hq : ltOf cf (F h) (F a) with
      | true =>
        have hd : decide (cf (F h) (F a) < 0) = true := hq
        have I2 : Hid ((∀ k, a + 1 ≤ k → k < h + 1 → ltOf cf (F k) (F a) = true) ∧ ∀ k, j ≤ k → k < b → ltOf cf (F k) (F a) = false) := ⟨fun k p1 p2 => L1 k h _ p1 (by omega) (by omega) hq, I1.2⟩
        have HH := Lib.hid hh
        clear hq L1 G1 I1 hh
        go_wp2_with fail
        go_quiet_grown (first | (go_at_fn g; refine Calls.grown_of (hc _ _)))
        have N2 : Hid (Now num blk d0.size w0 F (grow (wr.drewN nq) osq)) := NN.out.grown nq osq
        clear lh la hc
        generalize grow (wr.drewN nq) osq = w2 at N2 ⊢
        clear nq osq
        go_wp2_with fail
        go_roundg (j - (h + 1))
        case measure => have := HH.out; omega
        case rel => have := HH.out; exact ⟨h + 1, j, by omega, by omega, by omega, by omega, by go_num, rfl, N2.out, I2.out⟩
      | false =>
        have hd : decide (cf (F h) (F a) < 0) = false := hq
        have I2 : Hid ((∀ k, a + 1 ≤ k → k < i → ltOf cf (F k) (F a) = true) ∧ ∀ k, h ≤ k → k < b → ltOf cf (F k) (F a) = false) := ⟨I1.1, fun k p1 p2 => G1 h k _ (by omega) p1 p2 hq⟩
        have HH := Lib.hid hh
        clear hq L1 G1 I1 hh
        go_wp2_with fail
        go_quiet_grown (first | (go_at_fn g; refine Calls.grown_of (hc _ _)))
        have N2 : Hid (Now num blk d0.size w0 F (grow (wr.drewN nq) osq)) := NN.out.grown nq osq
        clear lh la hc
        generalize grow (wr.drewN nq) osq = w2 at N2 ⊢
        clear nq osq
        go_wp2_with fail
        go_roundg (h - i)
        case measure => have := HH.out; omega
        case rel => have := HH.out; exact ⟨i, h, by omega, by omega, by omega, by omega, rfl, rfl, N2.out, I2.out⟩
    · have hji : j = i := by omega
      have M0 : Hid (Merged (ltOf cf) R d0.size a b F (rotF F a (a + 1) i)) := FIN.out i hi (by omega) II.out.1 (by rw [← hji]; exact II.out.2)
      have NS : Hid (Now num blk d0.size w0 (rotF F a (a + 1) (a + 1)) wr) := by rw [R0.out]; exact NN.out
      clear hji NN II N0
      go_wp2_with fail
      obtain ⟨G1, rfl⟩ : ∃ G1, G1 = gk := ⟨_, rfl⟩
      go_loopg [13] b (fun g2 s13 w2 => ∃ k : Nat, a ≤ k ∧ k + 1 ≤ i ∧ i - k ≤ g2 ∧ s13 = .int .i64 k ∧ Hid (Now num blk d0.size w0 (rotF F a (a + 1) (k + 1)) w2))
      case atStart => exact ⟨a, Nat.le_refl _, hi, by omega, rfl, NS.out⟩
      case round =>
        obtain ⟨k, hk1, hk2, hg2, rfl, NK⟩ := hrel
        by_cases hlt2 : k + 1 < i
        · have hlz : (k : Int) < (i : Int) - 1 := by omega
          have RK := Lib.hid (RU.out k hk1)
          obtain ⟨dk, hdk, hF, hS⟩ := NK.out
          obtain ⟨iN, hiN⟩ : ∃ q, q = k := ⟨_, rfl⟩
          obtain ⟨jN, hjN⟩ : ∃ q, q = k + 1 := ⟨_, rfl⟩
          obtain ⟨⟨ca, cb', fa, fb⟩, ⟨u, cc⟩, S2'⟩ := swap_two (iN := iN) (jN := jN) (F' := rotF F a (a + 1) (k + 2)) T0.out.row hdk hS hF (by omega) (by omega) (by rw [hiN, hjN]; exact RK.out)
          have S2 := Lib.hid S2'
          have ea : (k : Int).toNat = iN := by omega
          have pa : (0 : Int) ≤ (k : Int) := by omega
          have ba : (k : Int) < (d0.size : Int) := by omega
          have ra : IntKind.i64.wrap (k : Int) = (k : Int) := by rw [IntKind.wrap_i64]; omega
          have eb : ((k : Int) + 1).toNat = jN := by omega
          have pb : (0 : Int) ≤ (k : Int) + 1 := by omega
          have bb : (k : Int) + 1 < (d0.size : Int) := by omega
          have rb : IntKind.i64.wrap ((k : Int) + 1) = (k : Int) + 1 := by rw [IntKind.wrap_i64]; omega
          obtain ⟨x, hx⟩ : ∃ x, x = num (rotF F a (a + 1) (k + 1) iN) := ⟨_, rfl⟩
          obtain ⟨y, hy⟩ : ∃ y, y = num (rotF F a (a + 1) (k + 1) jN) := ⟨_, rfl⟩
          rw [← hx] at ca S2
          rw [← hy] at cb' cc S2
          clear hS hF hdk S2' hiN hjN hx hy NK RK
          go_wp2_with fail
          go_big_region_o
          clear ca cb' cc fa fb
          generalize ((wr.setCell ⟨blk, iN, none⟩ (.int .i64 y)).setCell ⟨blk, jN, none⟩ (.int .i64 x)).drew = w3 at S2 ⊢
          clear ea eb
          go_wp2_with fail
          go_roundg (i - (k + 1))
          case measure => omega
          case rel => exact ⟨k + 1, by omega, by omega, by omega, by go_num, S2.out⟩
        · have hki : k + 1 = i := by omega
          have hlz : ¬ (k : Int) < (i : Int) - 1 := by omega
          have NI : Hid (Now num blk d0.size w0 (rotF F a (a + 1) i) wr) := by rw [← hki]; exact NK.out
          clear hki NK
          go_wp2_with fail
          refine bodyPost_ret (results_none rfl _ _ _) rfl ?_
          exact ⟨rfl, _, M0.out, NI.out⟩
set_option maxHeartbeats 16000000 in
theorem symLast {num : α → Int} {cf : α → α → Int} {g : FuncId} {cb : Array Value} {blk cap : Nat} {d0 : Array α} {w0 w : World} {F : Nat → α} {R : α → α → Prop} (T : Told num cf g cb blk d0 w0) (hsz : d0.size ≤ 1099511627776) (a m : Nat) (h1 : a + 1 < m) (h2 : m + 1 ≤ d0.size) (hN : Now num blk d0.size w0 F w) (hO : Ord (ltOf cf) a m F) :
    Calls Try.prog 162 #[.slice (some ⟨blk, 0, none⟩) d0.size cap, .int .i64 a, .int .i64 m, .int .i64 ((m : Int) + 1), .func (.func g) #[] cb] w fun e w' => e = .returned (.tuple #[]) ∧ ∃ F', Merged (ltOf cf) R d0.size a (m + 1) F F' ∧ Now num blk d0.size w0 F' w' := by
  have T0 := Lib.hid T
  have N0 := Lib.hid hN
  have eg := T.enter
  have FIN : Hid (∀ i, a ≤ i → i ≤ m → (∀ k, a ≤ k → k < i → ltOf cf (F m) (F k) = false) → (∀ k, i ≤ k → k < m → ltOf cf (F m) (F k) = true) → Merged (ltOf cf) R d0.size a (m + 1) F (rotF F i m (m + 1))) := fun i p1 p2 p3 p4 => ins_down p1 p2 h2 hO p3 p4 T.order
  have LT : Hid (∀ i j x, a ≤ i → i ≤ j → j < m → ltOf cf x (F i) = true → ltOf cf x (F j) = true) := fun i j x p1 p2 p3 p4 => lt_le_of T.order p4 (hO.le T.order p1 p2 p3)
  have GE : Hid (∀ i j x, a ≤ i → i ≤ j → j < m → ltOf cf x (F j) = false → ltOf cf x (F i) = false) := fun i j x p1 p2 p3 p4 => le_trans_of T.order (hO.le T.order p1 p2 p3) p4
  have RD : Hid (∀ k, k < m → swpF (rotF F (k + 1) m (m + 1)) (k + 1) k = rotF F k m (m + 1)) := fun k hk => rot_down hk
  have R0 : Hid (rotF F m m (m + 1) = F) := rot_down0 F m
  clear T hN hO
  have mixed : Try.prog.follows .mixedOrders = true := by kernel_rfl
  have e0 : ((m : Int) - (a : Int) == 1) = false := by simp; omega
  have e1 : (m : Int) + 1 - (m : Int) = 1 := by omega
  go_enter Try.func162, Try.ntmps162
  go_wp2_with fail
  go_loopg [14, 15] m (fun gg s14 s15 wr => ∃ i j : Nat, a ≤ i ∧ i ≤ j ∧ j ≤ m ∧ j - i ≤ gg ∧ s14 = .int .i64 i ∧ s15 = .int .i64 j ∧ Hid (Now num blk d0.size w0 F wr) ∧ Hid ((∀ k, a ≤ k → k < i → ltOf cf (F m) (F k) = false) ∧ ∀ k, j ≤ k → k < m → ltOf cf (F m) (F k) = true))
  case atStart => exact ⟨a, m, by omega, by omega, by omega, by omega, rfl, rfl, N0.out, ⟨fun k p1 p2 => by omega, fun k p1 p2 => by omega⟩⟩
  case round =>
    obtain ⟨i, j, hi, hij, hj, hgg, rfl, rfl, NN, II⟩ := hrel
    by_cases hlt : i < j
    · obtain ⟨h, hh⟩ : ∃ h, h = (i + j) / 2 := ⟨_, rfl⟩
      have eh : ((i : Int) + (j : Int)) / 2 = (h : Int) := by omega
      have ph : (0 : Int) ≤ (h : Int) := by omega
      have bh : (h : Int) < (d0.size : Int) := by omega
      have pm : (0 : Int) ≤ (m : Int) := by omega
      have bm : (m : Int) < (d0.size : Int) := by omega
      have lh := load_two T0.out NN.out (iN := h) (by omega)
      have lm := load_two T0.out NN.out (iN := m) (by omega)
      have hc := cmp_two T0.out NN.out (F m) (F h)
      have L1 := LT.out
      have G1 := GE.out
      have I1 := II.out
      cases hq : ltOf cf (F m) (F h) with
      | false =>
        have hd : decide (cf (F m) (F h) < 0) = false := hq
        have I2 : Hid ((∀ k, a ≤ k → k < h + 1 → ltOf cf (F m) (F k) = false) ∧ ∀ k, j ≤ k → k < m → ltOf cf (F m) (F k) = true) := ⟨fun k p1 p2 => G1 k h _ p1 (by omega) (by omega) hq, I1.2⟩
        have HH := Lib.hid hh
        clear hq L1 G1 I1 hh
        go_wp2_with fail
        go_quiet_grown (first | (go_at_fn g; refine Calls.grown_of (hc _ _)))
        have N2 : Hid (Now num blk d0.size w0 F (grow (wr.drewN nq) osq)) := NN.out.grown nq osq
        clear lh lm hc
        generalize grow (wr.drewN nq) osq = w2 at N2 ⊢
        clear nq osq
        go_wp2_with fail
        go_roundg (j - (h + 1))
        case measure => have := HH.out; omega
        case rel => have := HH.out; exact ⟨h + 1, j, by omega, by omega, by omega, by omega, by go_num, rfl, N2.out, I2.out⟩
      | true =>
        have hd : decide (cf (F m) (F h) < 0) = true := hq
        have I2 : Hid ((∀ k, a ≤ k → k < i → ltOf cf (F m) (F k) = false) ∧ ∀ k, h ≤ k → k < m → ltOf cf (F m) (F k) = true) := ⟨I1.1, fun k p1 p2 => L1 h k _ (by omega) p1 p2 hq⟩
        have HH := Lib.hid hh
        clear hq L1 G1 I1 hh
        go_wp2_with fail
        go_quiet_grown (first | (go_at_fn g; refine Calls.grown_of (hc _ _)))
        have N2 : Hid (Now num blk d0.size w0 F (grow (wr.drewN nq) osq)) := NN.out.grown nq osq
        clear lh lm hc
        generalize grow (wr.drewN nq) osq = w2 at N2 ⊢
        clear nq osq
        go_wp2_with fail
        go_roundg (h - i)
        case measure => have := HH.out; omega
        case rel => have := HH.out; exact ⟨i, h, by omega, by omega, by omega, by omega, rfl, rfl, N2.out, I2.out⟩
    · have hji : j = i := by omega
      have M0 : Hid (Merged (ltOf cf) R d0.size a (m + 1) F (rotF F i m (m + 1))) := FIN.out i hi (by omega) II.out.1 (by rw [← hji]; exact II.out.2)
      have NS : Hid (Now num blk d0.size w0 (rotF F m m (m + 1)) wr) := by rw [R0.out]; exact NN.out
      have hjm : i ≤ m := by omega
      clear hji NN II N0
      go_wp2_with fail
      obtain ⟨G1, rfl⟩ : ∃ G1, G1 = gk := ⟨_, rfl⟩
      go_loopg [17] m (fun g2 s17 w2 => ∃ k : Nat, i ≤ k ∧ k ≤ m ∧ k - i ≤ g2 ∧ s17 = .int .i64 k ∧ Hid (Now num blk d0.size w0 (rotF F k m (m + 1)) w2))
      case atStart => exact ⟨m, hjm, Nat.le_refl _, by omega, rfl, NS.out⟩
      case round =>
        obtain ⟨k', hk1, hk2, hg2, rfl, NK⟩ := hrel
        by_cases hlt2 : i < k'
        · obtain ⟨k, rfl⟩ : ∃ k, k' = k + 1 := ⟨k' - 1, by omega⟩
          have zk : ((k + 1 : Nat) : Int) = (k : Int) + 1 := by omega
          have hlz : decide ((i : Int) < (k : Int) + 1) = true := decide_eq_true (by omega)
          have hlz2 : (i : Int) < (k : Int) + 1 := by omega
          have RK := Lib.hid (RD.out k (by omega))
          obtain ⟨dk, hdk, hF, hS⟩ := NK.out
          obtain ⟨iN, hiN⟩ : ∃ q, q = k + 1 := ⟨_, rfl⟩
          obtain ⟨jN, hjN⟩ : ∃ q, q = k := ⟨_, rfl⟩
          obtain ⟨⟨ca, cb', fa, fb⟩, ⟨u, cc⟩, S2'⟩ := swap_two (iN := iN) (jN := jN) (F' := rotF F k m (m + 1)) T0.out.row hdk hS hF (by omega) (by omega) (by rw [hiN, hjN]; exact RK.out)
          have S2 := Lib.hid S2'
          have ea : ((k : Int) + 1).toNat = iN := by omega
          have pa : (0 : Int) ≤ (k : Int) + 1 := by omega
          have ba : (k : Int) + 1 < (d0.size : Int) := by omega
          have ra : IntKind.i64.wrap ((k : Int) + 1) = (k : Int) + 1 := by rw [IntKind.wrap_i64]; omega
          have eb : ((k : Int)).toNat = jN := by omega
          have pb : (0 : Int) ≤ (k : Int) := by omega
          have bb : (k : Int) < (d0.size : Int) := by omega
          have rb : IntKind.i64.wrap ((k : Int)) = (k : Int) := by rw [IntKind.wrap_i64]; omega
          obtain ⟨x, hx⟩ : ∃ x, x = num (rotF F (k + 1) m (m + 1) iN) := ⟨_, rfl⟩
          obtain ⟨y, hy⟩ : ∃ y, y = num (rotF F (k + 1) m (m + 1) jN) := ⟨_, rfl⟩
          rw [← hx] at ca S2
          rw [← hy] at cb' cc S2
          clear hS hF hdk S2' hiN hjN hx hy NK RK
          go_wp2_with fail
          go_big_region_o
          clear ca cb' cc fa fb
          generalize ((wr.setCell ⟨blk, iN, none⟩ (.int .i64 y)).setCell ⟨blk, jN, none⟩ (.int .i64 x)).drew = w3 at S2 ⊢
          clear ea eb
          go_wp2_with fail
          go_roundg (k - i)
          case measure => omega
          case rel => exact ⟨k, by omega, by omega, by omega, by first | rfl | go_num, S2.out⟩
        · have hki : k' = i := by omega
          subst hki
          go_wp2_with fail
          refine bodyPost_ret (results_none rfl _ _ _) rfl ?_
          exact ⟨rfl, _, M0.out, NK.out⟩
end Go.Proofs.Ytghnjmodnhnmfaa
