/- slices.stableCmpFunc and SortStableFunc at ints: the row in order, alike ones as they stood. -/
import Derived.Test.YtghnjmodnhnmfaaStSymM
namespace Go.Proofs
set_option maxRecDepth 20000
open Go.RowKit Go.Maps Go.Sort Go.Shelf

def Try.laysSlF20_ren : Go.Shelf.Ren := ⟨fun | 20 => 161 | n => n, fun | 0 => 0 | 3 => 3 | 4 => 4 | 22 => 25 | 24 => 3 | 25 => 77 | n => n, fun | n => n⟩
theorem Try.laysSlF20 : Go.Proofs.SlLaysF.n20 Try.prog Try.laysSlF20_ren := {
  mixed := by kernel_rfl
  f20 := ⟨Try.f161.name, by kernel_rfl, Try.func161.trans (congrArg some (by kernel_rfl))⟩
  t0 := Try.underlying0
  a0 := Try.isAgg0
  z0 := Try.sizeOf0
  v0 := Try.zeroValue0
  t3 := Try.underlying3
  a3 := Try.isAgg3
  z3 := Try.sizeOf3
  v3 := Try.zeroValue3
  t4 := Try.underlying4
  a4 := Try.isAgg4
  z4 := Try.sizeOf4
  v4 := Try.zeroValue4
  t22 := Try.underlying25
  a22 := Try.isAgg25
  z22 := Try.sizeOf25
  v22 := Try.zeroValue25
  a24 := Try.isAgg3
  z24 := Try.sizeOf3
  t25 := Try.underlying77
  a25 := Try.isAgg77
  z25 := Try.sizeOf77
  v25 := Try.zeroValue77 }
namespace Ytghnjmodnhnmfaa
variable {α : Type}
theorem dvd_next {d x a : Nat} (hx : d ∣ x) (ha : d ∣ a) (h : x < a) : x + d ≤ a := by
  have h1 : d ∣ a - x := Nat.dvd_sub ha hx
  have := Nat.le_of_dvd (by omega) h1
  omega
/-- Each block of d is in order. -/
def Blocks (lt : α → α → Bool) (d n lo : Nat) (F : Nat → α) : Prop := ∀ x, d ∣ x → lo ≤ x → Ord lt x (min (x + d) n) F
/-- The blocks of d below a are. -/
def Upto (lt : α → α → Bool) (d a : Nat) (F : Nat → α) : Prop := ∀ x, d ∣ x → x < a → Ord lt x (x + d) F
def Pass (lt : α → α → Bool) (R : α → α → Prop) (n : Nat) (F F' : Nat → α) : Prop := Mix 0 n F F' ∧ (Tie lt R n F → Tie lt R n F')
theorem Pass.refl (lt : α → α → Bool) (R : α → α → Prop) (n : Nat) (F : Nat → α) : Pass lt R n F F := ⟨Mix.refl _ _ _, id⟩
theorem Pass.then {lt : α → α → Bool} {R : α → α → Prop} {n a b : Nat} {F G H : Nat → α} (h : Pass lt R n F G) (k : Merged lt R n a b G H) (hb : b ≤ n) : Pass lt R n F H := ⟨h.1.trans (k.mix.mono (Nat.zero_le _) hb), fun ht => k.tie (h.2 ht)⟩
theorem Upto.next {lt : α → α → Bool} {R : α → α → Prop} {n d a : Nat} {G H : Nat → α} (hd : d ∣ a) (h : Upto lt d a G) (k : Merged lt R n a (a + d) G H) : Upto lt d (a + d) H := fun x hx hlt => by
  by_cases e : x < a
  · exact (h x hx e).out k.mix (Or.inl (dvd_next hx hd e))
  · have : x = a := by
      rcases Nat.lt_or_ge a x with h2 | h2
      · have := dvd_next hd hx h2; omega
      · omega
    subst this
    exact k.ord
theorem Upto.last {lt : α → α → Bool} {d a n : Nat} {G H : Nat → α} (hd : d ∣ a) (hn : n < a + d) (h : Upto lt d a G) (hm : Mix a n G H) (ho : Ord lt a n H) : Blocks lt d n 0 H := fun x hx _ => by
  by_cases e : x < a
  · have := dvd_next hx hd e
    exact ((h x hx e).out hm (Or.inl this)).sub (Nat.le_refl _) (by omega)
  · by_cases e2 : x = a
    · subst e2; exact ho.sub (Nat.le_refl _) (by omega)
    · have := dvd_next hd hx (by omega)
      intro i j h1 h2 h3
      omega
theorem Blocks.next {lt : α → α → Bool} {R : α → α → Prop} {n d a b : Nat} {G H : Nat → α} (h : Blocks lt d n a G) (k : Merged lt R n a b G H) (hab : a ≤ b) : Blocks lt d n b H := fun x hx hb => (h x hx (by omega)).out k.mix (Or.inr hb)
theorem Blocks.at {lt : α → α → Bool} {n d a : Nat} {G : Nat → α} (h : Blocks lt d n a G) (hd : 2 * d ∣ a) : Ord lt a (min (a + d) n) G ∧ Ord lt (a + d) (min (a + d + d) n) G := by
  have h1 : d ∣ a := Nat.dvd_trans ⟨2, by omega⟩ hd
  exact ⟨h a h1 (Nat.le_refl _), h (a + d) (Nat.dvd_add h1 (Nat.dvd_refl _)) (by omega)⟩
variable [Inhabited α]
theorem ins_now {num : α → Int} {cf : α → α → Int} {g : FuncId} {cb : Array Value} {blk cap : Nat} {d0 : Array α} {w0 w : World} {F : Nat → α} {R : α → α → Prop} (T : Told num cf g cb blk d0 w0) (hsz : d0.size ≤ 1099511627776) (a b : Nat) (h1 : a ≤ b) (h2 : b ≤ d0.size) (hN : Now num blk d0.size w0 F w) :
    Calls Try.prog 161 #[.slice (some ⟨blk, 0, none⟩) d0.size cap, .int .i64 a, .int .i64 b, .func (.func g) #[] cb] w fun e w' => e = .returned (.tuple #[]) ∧ ∃ F', Merged (ltOf cf) R d0.size a b F F' ∧ Now num blk d0.size w0 F' w' := by
  obtain ⟨dk, hd, rfl, hS⟩ := hN
  have := Any.insertionSortCmpFunc_s Try.laysSlF20 (encN num) cf g cb blk 0 cap a b d0 dk w0 w T.enter T.cmp T.row hd.symm hS h1 (by omega) (by omega)
  rw [hd] at this
  change Calls Try.prog 161 _ _ _ at this
  refine this.mono ?_
  rintro e w' ⟨rfl, hS'⟩
  obtain ⟨s1, s2, s3, s4⟩ := ins_spec (R := R) (d := dk) T.order h1 (by omega)
  rw [hd] at s4
  exact ⟨rfl, _, ⟨s1, s3, s4⟩, _, s2.trans hd, rfl, hS'⟩
set_option maxHeartbeats 16000000 in
theorem stable_any {num : α → Int} {cf : α → α → Int} {g : FuncId} {cb : Array Value} {blk cap : Nat} {d0 : Array α} {w0 w : World} {F : Nat → α} {R : α → α → Prop} (T : Told num cf g cb blk d0 w0) (hsz : d0.size ≤ 1099511627776) (hN : Now num blk d0.size w0 F w) :
    Calls Try.prog 119 #[.slice (some ⟨blk, 0, none⟩) d0.size cap, .int .i64 d0.size, .func (.func g) #[] cb] w fun e w' => e = .returned (.tuple #[]) ∧ ∃ F', Merged (ltOf cf) R d0.size 0 d0.size F F' ∧ Now num blk d0.size w0 F' w' := by
  have N0 := Lib.hid hN
  have INS : Hid (∀ (W : World) (G : Nat → α) (a b : Nat), a ≤ b → b ≤ d0.size → Now num blk d0.size w0 G W → Calls Try.prog 161 #[.slice (some ⟨blk, 0, none⟩) d0.size cap, .int .i64 a, .int .i64 b, .func (.func g) #[] cb] W fun e w' => e = .returned (.tuple #[]) ∧ ∃ F', Merged (ltOf cf) R d0.size a b G F' ∧ Now num blk d0.size w0 F' w') := fun W G a b h1 h2 h3 => ins_now T hsz a b h1 h2 h3
  have SYM : Hid (∀ (W : World) (G : Nat → α) (a m b : Nat), a < m → m < b → b ≤ d0.size → Now num blk d0.size w0 G W → Ord (ltOf cf) a m G → Ord (ltOf cf) m b G → Calls Try.prog 162 #[.slice (some ⟨blk, 0, none⟩) d0.size cap, .int .i64 a, .int .i64 m, .int .i64 b, .func (.func g) #[] cb] W fun e w' => e = .returned (.tuple #[]) ∧ ∃ F', Merged (ltOf cf) R d0.size a b G F' ∧ Now num blk d0.size w0 F' w') := fun W G a m b h1 h2 h3 h4 h5 h6 => merges T hsz (b - a) a m b G W (Nat.le_refl _) h1 h2 h3 h4 h5 h6
  clear T hN
  generalize d0.size = n at *
  go_enter Try.func119, Try.ntmps119
  go_wp2_with fail
  go_loopg [7, 8] n (fun gg s7 s8 wr => ∃ a : Nat, a ≤ n ∧ n - a ≤ gg ∧ s7 = .int .i64 a ∧ s8 = .int .i64 ((a : Int) + 20) ∧ Hid (20 ∣ a ∧ ∃ G, Now num blk n w0 G wr ∧ Pass (ltOf cf) R n F G ∧ Upto (ltOf cf) 20 a G))
  case atStart => exact ⟨0, Nat.zero_le _, by omega, rfl, rfl, ⟨Nat.dvd_zero _, F, N0.out, Pass.refl _ _ _ _, fun x _ h => absurd h (Nat.not_lt_zero _)⟩⟩
  case round =>
    obtain ⟨a, ha, hgg, rfl, rfl, QQ⟩ := hrel
    by_cases hle : a + 20 ≤ n
    · have z1 : (a : Int) + 20 ≤ (n : Int) := by omega
      have za : ((a + 20 : Nat) : Int) = (a : Int) + 20 := by omega
      obtain ⟨hd, G, hG, hP, hU⟩ := QQ.out
      have CALL := Lib.hid (INS.out wr G a (a + 20) (by omega) hle hG)
      have NX : Hid (∀ H W, Now num blk n w0 H W → Merged (ltOf cf) R n a (a + 20) G H → 20 ∣ (a + 20) ∧ ∃ G', Now num blk n w0 G' W ∧ Pass (ltOf cf) R n F G' ∧ Upto (ltOf cf) 20 (a + 20) G') := fun H W h1 h2 => ⟨Nat.dvd_add hd (Nat.dvd_refl _), H, h1, hP.then h2 hle, hU.next hd h2⟩
      rw [za] at CALL
      clear hd hG hP hU QQ
      go_wp2_with (go_at_call 161; (with_reducible refine CALL.out.mono ?_); rintro e w2 ⟨rfl, H, hm2, hn2⟩; have Q2 := Lib.hid (NX.out H w2 hn2 hm2); clear hm2 hn2)
      go_roundg (n - (a + 20))
      case measure => omega
      case rel => exact ⟨a + 20, hle, by omega, by rw [za], by rw [za], Q2.out⟩
    · have z1 : ¬ (a : Int) + 20 ≤ (n : Int) := by omega
      obtain ⟨hd, G, hG, hP, hU⟩ := QQ.out
      have CALL := Lib.hid (INS.out wr G a n ha (Nat.le_refl _) hG)
      have NX : Hid (∀ H W, Now num blk n w0 H W → Merged (ltOf cf) R n a n G H → ∃ G', Now num blk n w0 G' W ∧ Pass (ltOf cf) R n F G' ∧ Blocks (ltOf cf) 20 n 0 G') := fun H W h1 h2 => ⟨H, h1, hP.then h2 (Nat.le_refl _), hU.last hd (by omega) h2.mix h2.ord⟩
      clear hd hG hP hU QQ N0 INS
      go_wp2_with (go_at_call 161; (with_reducible refine CALL.out.mono ?_); rintro e w2 ⟨rfl, H, hm2, hn2⟩; have Q2 := Lib.hid (NX.out H w2 hn2 hm2); clear hm2 hn2)
      clear CALL NX
      obtain ⟨G1, rfl⟩ : ∃ G1, G1 = gk := ⟨_, rfl⟩
      go_loopg [6, 7, 8, 9] n (fun gg s6 _ _ _ wr => ∃ d : Nat, 20 ≤ d ∧ d ≤ 2199023255552 ∧ n - d ≤ gg ∧ s6 = .int .i64 d ∧ Hid (∃ G, Now num blk n w0 G wr ∧ Pass (ltOf cf) R n F G ∧ Blocks (ltOf cf) d n 0 G))
      case atStart => exact ⟨20, by omega, by omega, by omega, rfl, Q2.out⟩
      case round =>
        obtain ⟨d, hd1, hd2, hg2, rfl, QD⟩ := hrel
        by_cases hdn : d < n
        · have z2 : (d : Int) < (n : Int) := by omega
          obtain ⟨d2, hd2e⟩ : ∃ d2, d2 = 2 * d := ⟨_, rfl⟩
          have zd : (2 : Int) * (d : Int) = (d2 : Int) := by omega
          have zd' : (d : Int) * 2 = (d2 : Int) := by omega
          have S3 : Hid (d2 ∣ 0 ∧ ∃ G, Now num blk n w0 G wr ∧ Pass (ltOf cf) R n F G ∧ Upto (ltOf cf) d2 0 G ∧ Blocks (ltOf cf) d n 0 G) := by
            obtain ⟨G, q1, q2, q3⟩ := QD.out
            exact ⟨Nat.dvd_zero _, G, q1, q2, fun x _ h => absurd h (Nat.not_lt_zero _), q3⟩
          have HD := Lib.hid hd2e
          have hd2b : d2 ≤ 2199023255552 := by omega
          have hd2c : 40 ≤ d2 := by omega
          clear QD Q2 hd2e
          go_wp2_with fail
          obtain ⟨G2, rfl⟩ : ∃ G2, G2 = gk := ⟨_, rfl⟩
          go_loopg [7, 8] n (fun gg s7 s8 wr => ∃ a : Nat, a ≤ n ∧ n - a ≤ gg ∧ s7 = .int .i64 a ∧ s8 = .int .i64 ((a : Int) + (d2 : Int)) ∧ Hid (d2 ∣ a ∧ ∃ G, Now num blk n w0 G wr ∧ Pass (ltOf cf) R n F G ∧ Upto (ltOf cf) d2 a G ∧ Blocks (ltOf cf) d n a G))
          case atStart => exact ⟨0, Nat.zero_le _, by omega, rfl, by first | rfl | simp, S3.out⟩
          case round =>
            obtain ⟨a, ha2, hg3, rfl, rfl, QA⟩ := hrel
            by_cases hle2 : a + d2 ≤ n
            · have z3 : (a : Int) + (d2 : Int) ≤ (n : Int) := by omega
              have zm : (a : Int) + (d : Int) = ((a + d : Nat) : Int) := by omega
              have zb : ((a + d2 : Nat) : Int) = (a : Int) + (d2 : Int) := by omega
              obtain ⟨hdv, G, hG, hP, hU, hB⟩ := QA.out
              have CALL : Hid (Calls Try.prog 162 #[.slice (some ⟨blk, 0, none⟩) n cap, .int .i64 a, .int .i64 ((a : Int) + (d : Int)), .int .i64 ((a : Int) + (d2 : Int)), .func (.func g) #[] cb] wr fun e w' => e = .returned (.tuple #[]) ∧ (d2 ∣ (a + d2) ∧ ∃ G', Now num blk n w0 G' w' ∧ Pass (ltOf cf) R n F G' ∧ Upto (ltOf cf) d2 (a + d2) G' ∧ Blocks (ltOf cf) d n (a + d2) G')) := by
                have e2 := HD.out
                obtain ⟨o1, o2⟩ := hB.at (by rw [← e2]; exact hdv)
                have := SYM.out wr G a (a + d) (a + d2) (by omega) (by omega) hle2 hG (o1.sub (Nat.le_refl _) (by omega)) (o2.sub (Nat.le_refl _) (by omega))
                rw [← zm, zb] at this
                refine this.mono ?_
                rintro e w' ⟨rfl, H, h1, h2⟩
                exact ⟨rfl, Nat.dvd_add hdv (Nat.dvd_refl _), H, h2, hP.then h1 hle2, hU.next hdv h1, hB.next h1 (by omega)⟩
              clear hdv hG hP hU hB QA zm
              go_wp2_with (go_at_call 162; (with_reducible refine CALL.out.mono ?_); rintro e w2 ⟨rfl, hq2⟩; have Q2 := Lib.hid hq2; clear hq2)
              go_roundg (n - (a + d2))
              case measure => omega
              case rel => exact ⟨a + d2, hle2, by omega, by rw [zb], by first | rw [zb] | (rw [zb]; congr 1; omega), Q2.out⟩
            · have z3 : ¬ (a : Int) + (d2 : Int) ≤ (n : Int) := by omega
              obtain ⟨hdv, G, hG, hP, hU, hB⟩ := QA.out
              by_cases hmd : a + d < n
              · have z4 : (a : Int) + (d : Int) < (n : Int) := by omega
                have zm : (a : Int) + (d : Int) = ((a + d : Nat) : Int) := by omega
                have CALL : Hid (Calls Try.prog 162 #[.slice (some ⟨blk, 0, none⟩) n cap, .int .i64 a, .int .i64 ((a : Int) + (d : Int)), .int .i64 n, .func (.func g) #[] cb] wr fun e w' => e = .returned (.tuple #[]) ∧ (∃ G', Now num blk n w0 G' w' ∧ Pass (ltOf cf) R n F G' ∧ Blocks (ltOf cf) d2 n 0 G')) := by
                  have e2 := HD.out
                  obtain ⟨o1, o2⟩ := hB.at (by rw [← e2]; exact hdv)
                  have := SYM.out wr G a (a + d) n (by omega) (by omega) (Nat.le_refl _) hG (o1.sub (Nat.le_refl _) (by omega)) (o2.sub (Nat.le_refl _) (by omega))
                  rw [← zm] at this
                  refine this.mono ?_
                  rintro e w' ⟨rfl, H, h1, h2⟩
                  exact ⟨rfl, H, h2, hP.then h1 (Nat.le_refl _), hU.last hdv (by omega) h1.mix h1.ord⟩
                clear hdv hG hP hU hB QA zm
                go_wp2_with (go_at_call 162; (with_reducible refine CALL.out.mono ?_); rintro e w2 ⟨rfl, hq2⟩; have Q2 := Lib.hid hq2; clear hq2)
                go_roundg (n - d2)
                case measure => have := HD.out; omega
                case rel => exact ⟨d2, by omega, by omega, by omega, rfl, Q2.out⟩
              · have z4 : ¬ (a : Int) + (d : Int) < (n : Int) := by omega
                have Q2 : Hid (∃ G', Now num blk n w0 G' wr ∧ Pass (ltOf cf) R n F G' ∧ Blocks (ltOf cf) d2 n 0 G') := by
                  have e2 := HD.out
                  obtain ⟨o1, o2⟩ := hB.at (by rw [← e2]; exact hdv)
                  exact ⟨G, hG, hP, hU.last hdv (by omega) (Mix.refl _ _ _) (o1.sub (Nat.le_refl _) (by omega))⟩
                clear hdv hG hP hU hB QA
                go_wp2_with fail
                go_roundg (n - d2)
                case measure => have := HD.out; omega
                case rel => exact ⟨d2, by omega, by omega, by omega, rfl, Q2.out⟩
        · have z2 : ¬ (d : Int) < (n : Int) := by omega
          obtain ⟨G, q1, q2, q3⟩ := QD.out
          have O : Ord (ltOf cf) 0 n G := (q3 0 (Nat.dvd_zero _) (Nat.le_refl _)).sub (Nat.le_refl _) (by omega)
          have FINAL : Hid (Merged (ltOf cf) R n 0 n F G) := ⟨q2.1, O, q2.2⟩
          have NF := Lib.hid q1
          clear q1 q2 q3 O QD Q2
          go_wp2_with fail
          refine bodyPost_end (results_none rfl _ _ _) rfl ?_
          exact ⟨rfl, G, FINAL.out, NF.out⟩
theorem sortStable_any {num : α → Int} {cf : α → α → Int} {g : FuncId} {cb : Array Value} {blk cap : Nat} {d0 : Array α} {w0 w : World} {F : Nat → α} {R : α → α → Prop} (T : Told num cf g cb blk d0 w0) (hsz : d0.size ≤ 1099511627776) (hN : Now num blk d0.size w0 F w) :
    Calls Try.prog 72 #[.slice (some ⟨blk, 0, none⟩) d0.size cap, .func (.func g) #[] cb] w fun e w' => e = .returned (.tuple #[]) ∧ ∃ F', Merged (ltOf cf) R d0.size 0 d0.size F F' ∧ Now num blk d0.size w0 F' w' := by
  have CALL := Lib.hid (stable_any (cap := cap) (R := R) T hsz hN)
  clear T hN
  generalize d0.size = n at *
  go_enter Try.func72, Try.ntmps72
  go_wp2_with (go_at_call 119; (with_reducible refine CALL.out.mono ?_); rintro e w2 ⟨rfl, F', h1, h2⟩; have H1 := Lib.hid h1; have H2 := Lib.hid h2; clear h1 h2)
  refine bodyPost_end (results_none rfl _ _ _) rfl ?_
  exact ⟨rfl, F', H1.out, H2.out⟩
/-- A row of none: nothing is asked. -/
theorem ins_none (A : Option Addr) (cap : Nat) (fv : Value) (w : World) :
    Calls Try.prog 161 #[.slice A 0 cap, .int .i64 0, .int .i64 0, fv] w fun e w' => e = .returned (.tuple #[]) ∧ w' = w := by
  go_enter Try.func161, Try.ntmps161
  go_wp2_with fail
  go_loopg [8] 1 (fun _ s8 wr => s8 = .int .i64 1 ∧ wr = w)
  case atStart => exact ⟨rfl, rfl⟩
  case round =>
    obtain ⟨rfl, hw⟩ := hrel
    obtain rfl := hw.symm
    go_wp2_with fail
    refine bodyPost_end (results_none rfl _ _ _) rfl ?_
    exact ⟨rfl, rfl⟩
theorem stable_none (A : Option Addr) (cap : Nat) (fv : Value) (w : World) :
    Calls Try.prog 119 #[.slice A 0 cap, .int .i64 0, fv] w fun e w' => e = .returned (.tuple #[]) ∧ w' = w := by
  go_enter Try.func119, Try.ntmps119
  go_wp2_with fail
  go_loopg [7, 8] 1 (fun _ s7 s8 wr => s7 = .int .i64 0 ∧ s8 = .int .i64 20 ∧ wr = w)
  case atStart => exact ⟨rfl, rfl, rfl⟩
  case round =>
    obtain ⟨rfl, rfl, hw⟩ := hrel
    obtain rfl := hw.symm
    go_wp2_with (go_at_call 161; (with_reducible refine (ins_none A cap fv _).mono ?_); rintro e w2 ⟨rfl, rfl⟩)
    obtain ⟨G1, rfl⟩ : ∃ G1, G1 = gk := ⟨_, rfl⟩
    go_loopg [6, 7, 8, 9] 1 (fun _ s6 _ _ _ wr2 => s6 = .int .i64 20 ∧ Hid (wr2 = w2))
    case atStart => exact ⟨rfl, rfl⟩
    case round =>
      obtain ⟨rfl, HW⟩ := hrel
      go_wp2_with fail
      refine bodyPost_end (results_none rfl _ _ _) rfl ?_
      exact ⟨rfl, HW.out⟩
theorem sortStable_none (A : Option Addr) (cap : Nat) (fv : Value) (w : World) :
    Calls Try.prog 72 #[.slice A 0 cap, fv] w fun e w' => e = .returned (.tuple #[]) ∧ w' = w := by
  go_enter Try.func72, Try.ntmps72
  go_wp2_with (go_at_call 119; (with_reducible refine (stable_none A cap fv _).mono ?_); rintro e w2 ⟨rfl, rfl⟩)
  refine bodyPost_end (results_none rfl _ _ _) rfl ?_
  exact ⟨rfl, rfl⟩
end Ytghnjmodnhnmfaa
end Go.Proofs
