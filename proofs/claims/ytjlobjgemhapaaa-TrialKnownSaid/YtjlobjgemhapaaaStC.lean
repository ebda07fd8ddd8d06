/- StStable: slices.stableCmpFunc and SortStableFunc at ints: the row in order, alike ones as they stood. | StMarks: The marked ones, that of the greatest Mark first: what trial.Gone's stable sort makes of them. -/
import Derived.Test.YtjlobjgemhapaaaOldV
import Derived.Test.YtjlobjgemhapaaaStB
import Derived.Test.YtjlobjgemhapaaaTrGone
namespace Go.Proofs
set_option maxRecDepth 20000
set_option maxRecDepth 20000
open Go.RowKit Go.Maps Go.Sort Go.Shelf

def Try.laysSlF20_ren : Go.Shelf.Ren := ⟨fun | 20 => 148 | n => n, fun | 0 => 0 | 3 => 3 | 4 => 4 | 22 => 25 | 24 => 3 | 25 => 67 | n => n, fun | n => n⟩
theorem Try.laysSlF20 : Go.Proofs.SlLaysF.n20 Try.prog Try.laysSlF20_ren := {
  mixed := by kernel_rfl
  f20 := ⟨Try.f148.name, by kernel_rfl, Try.func148.trans (congrArg some (by kernel_rfl))⟩
  t0 := Try.underlying0
  a0 := Try.isAgg0
  z0 := Try.sizeOf0
  v0 := Try.zeroValue0
  t3 := Try.underlying3
  a3 := Try.isAgg3
  z3 := Try.sizeOf3
  v3 := Try.zeroValue3
  t4 := Try.underlying4
  a4 := Try.isAgg4
  z4 := Try.sizeOf4
  v4 := Try.zeroValue4
  t22 := Try.underlying25
  a22 := Try.isAgg25
  z22 := Try.sizeOf25
  v22 := Try.zeroValue25
  a24 := Try.isAgg3
  z24 := Try.sizeOf3
  t25 := Try.underlying67
  a25 := Try.isAgg67
  z25 := Try.sizeOf67
  v25 := Try.zeroValue67 }
namespace Ytjlobjgemhapaaa
variable {α : Type}
theorem dvd_next {d x a : Nat} (hx : d ∣ x) (ha : d ∣ a) (h : x < a) : x + d ≤ a := by
  have h1 : d ∣ a - x := Nat.dvd_sub ha hx
  have := Nat.le_of_dvd (by omega) h1
  omega
/-- Each block of d is in order. -/
def Blocks (lt : α → α → Bool) (d n lo : Nat) (F : Nat → α) : Prop := ∀ x, d ∣ x → lo ≤ x → Ord lt x (min (x + d) n) F
/-- The blocks of d below a are. -/
def Upto (lt : α → α → Bool) (d a : Nat) (F : Nat → α) : Prop := ∀ x, d ∣ x → x < a → Ord lt x (x + d) F
def Pass (lt : α → α → Bool) (R : α → α → Prop) (n : Nat) (F F' : Nat → α) : Prop := Mix 0 n F F' ∧ (Tie lt R n F → Tie lt R n F')
theorem Pass.refl (lt : α → α → Bool) (R : α → α → Prop) (n : Nat) (F : Nat → α) : Pass lt R n F F := ⟨Mix.refl _ _ _, id⟩
theorem Pass.then {lt : α → α → Bool} {R : α → α → Prop} {n a b : Nat} {F G H : Nat → α} (h : Pass lt R n F G) (k : Merged lt R n a b G H) (hb : b ≤ n) : Pass lt R n F H := ⟨h.1.trans (k.mix.mono (Nat.zero_le _) hb), fun ht => k.tie (h.2 ht)⟩
theorem Upto.next {lt : α → α → Bool} {R : α → α → Prop} {n d a : Nat} {G H : Nat → α} (hd : d ∣ a) (h : Upto lt d a G) (k : Merged lt R n a (a + d) G H) : Upto lt d (a + d) H := fun x hx hlt => by
  by_cases e : x < a
  · exact (h x hx e).out k.mix (Or.inl (dvd_next hx hd e))
  · have : x = a := by
      rcases Nat.lt_or_ge a x with h2 | h2
      · have := dvd_next hd hx h2; omega
      · omega
    subst this
    exact k.ord
theorem Upto.last {lt : α → α → Bool} {d a n : Nat} {G H : Nat → α} (hd : d ∣ a) (hn : n < a + d) (h : Upto lt d a G) (hm : Mix a n G H) (ho : Ord lt a n H) : Blocks lt d n 0 H := fun x hx _ => by
  by_cases e : x < a
  · have := dvd_next hx hd e
    exact ((h x hx e).out hm (Or.inl this)).sub (Nat.le_refl _) (by omega)
  · by_cases e2 : x = a
    · subst e2; exact ho.sub (Nat.le_refl _) (by omega)
    · have := dvd_next hd hx (by omega)
      intro i j h1 h2 h3
      omega
theorem Blocks.next {lt : α → α → Bool} {R : α → α → Prop} {n d a b : Nat} {G H : Nat → α} (h : Blocks lt d n a G) (k : Merged lt R n a b G H) (hab : a ≤ b) : Blocks lt d n b H := fun x hx hb => (h x hx (by omega)).out k.mix (Or.inr hb)
theorem Blocks.at {lt : α → α → Bool} {n d a : Nat} {G : Nat → α} (h : Blocks lt d n a G) (hd : 2 * d ∣ a) : Ord lt a (min (a + d) n) G ∧ Ord lt (a + d) (min (a + d + d) n) G := by
  have h1 : d ∣ a := Nat.dvd_trans ⟨2, by omega⟩ hd
  exact ⟨h a h1 (Nat.le_refl _), h (a + d) (Nat.dvd_add h1 (Nat.dvd_refl _)) (by omega)⟩
variable [Inhabited α]
theorem ins_now {num : α → Int} {cf : α → α → Int} {g : FuncId} {cb : Array Value} {blk cap : Nat} {d0 : Array α} {w0 w : World} {F : Nat → α} {R : α → α → Prop} (T : Told num cf g cb blk d0 w0) (hsz : d0.size ≤ 1099511627776) (a b : Nat) (h1 : a ≤ b) (h2 : b ≤ d0.size) (hN : Now num blk d0.size w0 F w) :
    Calls Try.prog 148 #[.slice (some ⟨blk, 0, none⟩) d0.size cap, .int .i64 a, .int .i64 b, .func (.func g) #[] cb] w fun e w' => e = .returned (.tuple #[]) ∧ ∃ F', Merged (ltOf cf) R d0.size a b F F' ∧ Now num blk d0.size w0 F' w' := by
  obtain ⟨dk, hd, rfl, hS⟩ := hN
  have := Any.insertionSortCmpFunc_s Try.laysSlF20 (encN num) cf g cb blk 0 cap a b d0 dk w0 w T.enter T.cmp T.row hd.symm hS h1 (by omega) (by omega)
  rw [hd] at this
  change Calls Try.prog 148 _ _ _ at this
  refine this.mono ?_
  rintro e w' ⟨rfl, hS'⟩
  obtain ⟨s1, s2, s3, s4⟩ := ins_spec (R := R) (d := dk) T.order h1 (by omega)
  rw [hd] at s4
  exact ⟨rfl, _, ⟨s1, s3, s4⟩, _, s2.trans hd, rfl, hS'⟩
set_option maxHeartbeats 16000000 in
theorem stable_any {num : α → Int} {cf : α → α → Int} {g : FuncId} {cb : Array Value} {blk cap : Nat} {d0 : Array α} {w0 w : World} {F : Nat → α} {R : α → α → Prop} (T : Told num cf g cb blk d0 w0) (hsz : d0.size ≤ 1099511627776) (hN : Now num blk d0.size w0 F w) :
    Calls Try.prog 93 #[.slice (some ⟨blk, 0, none⟩) d0.size cap, .int .i64 d0.size, .func (.func g) #[] cb] w fun e w' => e = .returned (.tuple #[]) ∧ ∃ F', Merged (ltOf cf) R d0.size 0 d0.size F F' ∧ Now num blk d0.size w0 F' w' := by
  have N0 := Lib.hid hN
  have INS : Hid (∀ (W : World) (G : Nat → α) (a b : Nat), a ≤ b → b ≤ d0.size → Now num blk d0.size w0 G W → Calls Try.prog 148 #[.slice (some ⟨blk, 0, none⟩) d0.size cap, .int .i64 a, .int .i64 b, .func (.func g) #[] cb] W fun e w' => e = .returned (.tuple #[]) ∧ ∃ F', Merged (ltOf cf) R d0.size a b G F' ∧ Now num blk d0.size w0 F' w') := fun W G a b h1 h2 h3 => ins_now T hsz a b h1 h2 h3
  have SYM : Hid (∀ (W : World) (G : Nat → α) (a m b : Nat), a < m → m < b → b ≤ d0.size → Now num blk d0.size w0 G W → Ord (ltOf cf) a m G → Ord (ltOf cf) m b G → Calls Try.prog 149 #[.slice (some ⟨blk, 0, none⟩) d0.size cap, .int .i64 a, .int .i64 m, .int .i64 b, .func (.func g) #[] cb] W fun e w' => e = .returned (.tuple #[]) ∧ ∃ F', Merged (ltOf cf) R d0.size a b G F' ∧ Now num blk d0.size w0 F' w') := fun W G a m b h1 h2 h3 h4 h5 h6 => merges T hsz (b - a) a m b G W (Nat.le_refl _) h1 h2 h3 h4 h5 h6
  clear T hN
  generalize d0.size = n at *
  go_enter Try.func93, Try.ntmps93
  go_wp2_with fail
  go_loopg [7, 8] n (fun gg s7 s8 wr => ∃ a : Nat, a ≤ n ∧ n - a ≤ gg ∧ s7 = .int .i64 a ∧ s8 = .int .i64 ((a : Int) + 20) ∧ Hid (20 ∣ a ∧ ∃ G, Now num blk n w0 G wr ∧ Pass (ltOf cf) R n F G ∧ Upto (ltOf cf) 20 a G))
  case atStart => exact ⟨0, Nat.zero_le _, by omega, rfl, rfl, ⟨Nat.dvd_zero _, F, N0.out, Pass.refl _ _ _ _, fun x _ h => absurd h (Nat.not_lt_zero _)⟩⟩
  case round =>
    obtain ⟨a, ha, hgg, rfl, rfl, QQ⟩ := hrel
    by_cases hle : a + 20 ≤ n
    · have z1 : (a : Int) + 20 ≤ (n : Int) := by omega
      have za : ((a + 20 : Nat) : Int) = (a : Int) + 20 := by omega
      obtain ⟨hd, G, hG, hP, hU⟩ := QQ.out
      have CALL := Lib.hid (INS.out wr G a (a + 20) (by omega) hle hG)
      have NX : Hid (∀ H W, Now num blk n w0 H W → Merged (ltOf cf) R n a (a + 20) G H → 20 ∣ (a + 20) ∧ ∃ G', Now num blk n w0 G' W ∧ Pass (ltOf cf) R n F G' ∧ Upto (ltOf cf) 20 (a + 20) G') := fun H W h1 h2 => ⟨Nat.dvd_add hd (Nat.dvd_refl _), H, h1, hP.then h2 hle, hU.next hd h2⟩
      rw [za] at CALL
      clear hd hG hP hU QQ
      go_wp2_with (go_at_call 148; (with_reducible refine CALL.out.mono ?_); rintro e w2 ⟨rfl, H, hm2, hn2⟩; have Q2 := Lib.hid (NX.out H w2 hn2 hm2); clear hm2 hn2)
      go_roundg (n - (a + 20))
      case measure => omega
      case rel => exact ⟨a + 20, hle, by omega, by rw [za], by rw [za], Q2.out⟩
    · have z1 : ¬ (a : Int) + 20 ≤ (n : Int) := by omega
      obtain ⟨hd, G, hG, hP, hU⟩ := QQ.out
      have CALL := Lib.hid (INS.out wr G a n ha (Nat.le_refl _) hG)
      have NX : Hid (∀ H W, Now num blk n w0 H W → Merged (ltOf cf) R n a n G H → ∃ G', Now num blk n w0 G' W ∧ Pass (ltOf cf) R n F G' ∧ Blocks (ltOf cf) 20 n 0 G') := fun H W h1 h2 => ⟨H, h1, hP.then h2 (Nat.le_refl _), hU.last hd (by omega) h2.mix h2.ord⟩
      clear hd hG hP hU QQ N0 INS
      go_wp2_with (go_at_call 148; (with_reducible refine CALL.out.mono ?_); rintro e w2 ⟨rfl, H, hm2, hn2⟩; have Q2 := Lib.hid (NX.out H w2 hn2 hm2); clear hm2 hn2)
      clear CALL NX
      obtain ⟨G1, rfl⟩ : ∃ G1, G1 = gk := ⟨_, rfl⟩
      go_loopg [6, 7, 8, 9] n (fun gg s6 _ _ _ wr => ∃ d : Nat, 20 ≤ d ∧ d ≤ 2199023255552 ∧ n - d ≤ gg ∧ s6 = .int .i64 d ∧ Hid (∃ G, Now num blk n w0 G wr ∧ Pass (ltOf cf) R n F G ∧ Blocks (ltOf cf) d n 0 G))
      case atStart => exact ⟨20, by omega, by omega, by omega, rfl, Q2.out⟩
      case round =>
        obtain ⟨d, hd1, hd2, hg2, rfl, QD⟩ := hrel
        by_cases hdn : d < n
        · have z2 : (d : Int) < (n : Int) := by omega
          obtain ⟨d2, hd2e⟩ : ∃ d2, d2 = 2 * d := ⟨_, rfl⟩
          have zd : (2 : Int) * (d : Int) = (d2 : Int) := by omega
          have zd' : (d : Int) * 2 = (d2 : Int) := by omega
          have S3 : Hid (d2 ∣ 0 ∧ ∃ G, Now num blk n w0 G wr ∧ Pass (ltOf cf) R n F G ∧ Upto (ltOf cf) d2 0 G ∧ Blocks (ltOf cf) d n 0 G) := by
            obtain ⟨G, q1, q2, q3⟩ := QD.out
            exact ⟨Nat.dvd_zero _, G, q1, q2, fun x _ h => absurd h (Nat.not_lt_zero _), q3⟩
          have HD := Lib.hid hd2e
          have hd2b : d2 ≤ 2199023255552 := by omega
          have hd2c : 40 ≤ d2 := by omega
          clear QD Q2 hd2e
          go_wp2_with fail
          obtain ⟨G2, rfl⟩ : ∃ G2, G2 = gk := ⟨_, rfl⟩
          go_loopg [7, 8] n (fun gg s7 s8 wr => ∃ a : Nat, a ≤ n ∧ n - a ≤ gg ∧ s7 = .int .i64 a ∧ s8 = .int .i64 ((a : Int) + (d2 : Int)) ∧ Hid (d2 ∣ a ∧ ∃ G, Now num blk n w0 G wr ∧ Pass (ltOf cf) R n F G ∧ Upto (ltOf cf) d2 a G ∧ Blocks (ltOf cf) d n a G))
          case atStart => exact ⟨0, Nat.zero_le _, by omega, rfl, by first | rfl | simp, S3.out⟩
          case round =>
            obtain ⟨a, ha2, hg3, rfl, rfl, QA⟩ := hrel
            by_cases hle2 : a + d2 ≤ n
            · have z3 : (a : Int) + (d2 : Int) ≤ (n : Int) := by omega
              have zm : (a : Int) + (d : Int) = ((a + d : Nat) : Int) := by omega
              have zb : ((a + d2 : Nat) : Int) = (a : Int) + (d2 : Int) := by omega
              obtain ⟨hdv, G, hG, hP, hU, hB⟩ := QA.out
              have CALL : Hid (Calls Try.prog 149 #[.slice (some ⟨blk, 0, none⟩) n cap, .int .i64 a, .int .i64 ((a : Int) + (d : Int)), .int .i64 ((a : Int) + (d2 : Int)), .func (.func g) #[] cb] wr fun e w' => e = .returned (.tuple #[]) ∧ (d2 ∣ (a + d2) ∧ ∃ G', Now num blk n w0 G' w' ∧ Pass (ltOf cf) R n F G' ∧ Upto (ltOf cf) d2 (a + d2) G' ∧ Blocks (ltOf cf) d n (a + d2) G')) := by
                have e2 := HD.out
                obtain ⟨o1, o2⟩ := hB.at (by rw [← e2]; exact hdv)
                have := SYM.out wr G a (a + d) (a + d2) (by omega) (by omega) hle2 hG (o1.sub (Nat.le_refl _) (by omega)) (o2.sub (Nat.le_refl _) (by omega))
                rw [← zm, zb] at this
                refine this.mono ?_
                rintro e w' ⟨rfl, H, h1, h2⟩
                exact ⟨rfl, Nat.dvd_add hdv (Nat.dvd_refl _), H, h2, hP.then h1 hle2, hU.next hdv h1, hB.next h1 (by omega)⟩
              clear hdv hG hP hU hB QA zm
              go_wp2_with (go_at_call 149; (with_reducible refine CALL.out.mono ?_); rintro e w2 ⟨rfl, hq2⟩; have Q2 := Lib.hid hq2; clear hq2)
              go_roundg (n - (a + d2))
              case measure => omega
              case rel => exact ⟨a + d2, hle2, by omega, by rw [zb], by first | rw [zb] | (rw [zb]; congr 1; omega), Q2.out⟩
            · have z3 : ¬ (a : Int) + (d2 : Int) ≤ (n : Int) := by omega
              obtain ⟨hdv, G, hG, hP, hU, hB⟩ := QA.out
              by_cases hmd : a + d < n
              · have z4 : (a : Int) + (d : Int) < (n : Int) := by omega
                have zm : (a : Int) + (d : Int) = ((a + d : Nat) : Int) := by omega
                have CALL : Hid (Calls Try.prog 149 #[.slice (some ⟨blk, 0, none⟩) n cap, .int .i64 a, .int .i64 ((a : Int) + (d : Int)), .int .i64 n, .func (.func g) #[] cb] wr fun e w' => e = .returned (.tuple #[]) ∧ (∃ G', Now num blk n w0 G' w' ∧ Pass (ltOf cf) R n F G' ∧ Blocks (ltOf cf) d2 n 0 G')) := by
                  have e2 := HD.out
                  obtain ⟨o1, o2⟩ := hB.at (by rw [← e2]; exact hdv)
                  have := SYM.out wr G a (a + d) n (by omega) (by omega) (Nat.le_refl _) hG (o1.sub (Nat.le_refl _) (by omega)) (o2.sub (Nat.le_refl _) (by omega))
                  rw [← zm] at this
                  refine this.mono ?_
                  rintro e w' ⟨rfl, H, h1, h2⟩
                  exact ⟨rfl, H, h2, hP.then h1 (Nat.le_refl _), hU.last hdv (by omega) h1.mix h1.ord⟩
                clear hdv hG hP hU hB QA zm
                go_wp2_with (go_at_call 149; (with_reducible refine CALL.out.mono ?_); rintro e w2 ⟨rfl, hq2⟩; have Q2 := Lib.hid hq2; clear hq2)
                go_roundg (n - d2)
                case measure => have := HD.out; omega
                case rel => exact ⟨d2, by omega, by omega, by omega, rfl, Q2.out⟩
              · have z4 : ¬ (a : Int) + (d : Int) < (n : Int) := by omega
                have Q2 : Hid (∃ G', Now num blk n w0 G' wr ∧ Pass (ltOf cf) R n F G' ∧ Blocks (ltOf cf) d2 n 0 G') := by
                  have e2 := HD.out
                  obtain ⟨o1, o2⟩ := hB.at (by rw [← e2]; exact hdv)
                  exact ⟨G, hG, hP, hU.last hdv (by omega) (Mix.refl _ _ _) (o1.sub (Nat.le_refl _) (by omega))⟩
                clear hdv hG hP hU hB QA
                go_wp2_with fail
                go_roundg (n - d2)
                case measure => have := HD.out; omega
                case rel => exact ⟨d2, by omega, by omega, by omega, rfl, Q2.out⟩
        · have z2 : ¬ (d : Int) < (n : Int) := by omega
          obtain ⟨G, q1, q2, q3⟩ := QD.out
          have O : Ord (ltOf cf) 0 n G := (q3 0 (Nat.dvd_zero _) (Nat.le_refl _)).sub (Nat.le_refl _) (by omega)
          have FINAL : Hid (Merged (ltOf cf) R n 0 n F G) := ⟨q2.1, O, q2.2⟩
          have NF := Lib.hid q1
          clear q1 q2 q3 O QD Q2
          go_wp2_with fail
          refine bodyPost_end (results_none rfl _ _ _) rfl ?_
          exact ⟨rfl, G, FINAL.out, NF.out⟩
theorem sortStable_any {num : α → Int} {cf : α → α → Int} {g : FuncId} {cb : Array Value} {blk cap : Nat} {d0 : Array α} {w0 w : World} {F : Nat → α} {R : α → α → Prop} (T : Told num cf g cb blk d0 w0) (hsz : d0.size ≤ 1099511627776) (hN : Now num blk d0.size w0 F w) :
    Calls Try.prog 53 #[.slice (some ⟨blk, 0, none⟩) d0.size cap, .func (.func g) #[] cb] w fun e w' => e = .returned (.tuple #[]) ∧ ∃ F', Merged (ltOf cf) R d0.size 0 d0.size F F' ∧ Now num blk d0.size w0 F' w' := by
  have CALL := Lib.hid (stable_any (cap := cap) (R := R) T hsz hN)
  clear T hN
  generalize d0.size = n at *
  go_enter Try.func53, Try.ntmps53
  go_wp2_with (go_at_call 93; (with_reducible refine CALL.out.mono ?_); rintro e w2 ⟨rfl, F', h1, h2⟩; have H1 := Lib.hid h1; have H2 := Lib.hid h2; clear h1 h2)
  refine bodyPost_end (results_none rfl _ _ _) rfl ?_
  exact ⟨rfl, F', H1.out, H2.out⟩
/-- A row of none: nothing is asked. -/
theorem ins_none (A : Option Addr) (cap : Nat) (fv : Value) (w : World) :
    Calls Try.prog 148 #[.slice A 0 cap, .int .i64 0, .int .i64 0, fv] w fun e w' => e = .returned (.tuple #[]) ∧ w' = w := by
  go_enter Try.func148, Try.ntmps148
  go_wp2_with fail
  go_loopg [8] 1 (fun _ s8 wr => s8 = .int .i64 1 ∧ wr = w)
  case atStart => exact ⟨rfl, rfl⟩
  case round =>
    obtain ⟨rfl, hw⟩ := hrel
    obtain rfl := hw.symm
    go_wp2_with fail
    refine bodyPost_end (results_none rfl _ _ _) rfl ?_
    exact ⟨rfl, rfl⟩
theorem stable_none (A : Option Addr) (cap : Nat) (fv : Value) (w : World) :
    Calls Try.prog 93 #[.slice A 0 cap, .int .i64 0, fv] w fun e w' => e = .returned (.tuple #[]) ∧ w' = w := by
  go_enter Try.func93, Try.ntmps93
  go_wp2_with fail
  go_loopg [7, 8] 1 (fun _ s7 s8 wr => s7 = .int .i64 0 ∧ s8 = .int .i64 20 ∧ wr = w)
  case atStart => exact ⟨rfl, rfl, rfl⟩
  case round =>
    obtain ⟨rfl, rfl, hw⟩ := hrel
    obtain rfl := hw.symm
    go_wp2_with (go_at_call 148; (with_reducible refine (ins_none A cap fv _).mono ?_); rintro e w2 ⟨rfl, rfl⟩)
    obtain ⟨G1, rfl⟩ : ∃ G1, G1 = gk := ⟨_, rfl⟩
    go_loopg [6, 7, 8, 9] 1 (fun _ s6 _ _ _ wr2 => s6 = .int .i64 20 ∧ Hid (wr2 = w2))
    case atStart => exact ⟨rfl, rfl⟩
    case round =>
      obtain ⟨rfl, HW⟩ := hrel
      go_wp2_with fail
      refine bodyPost_end (results_none rfl _ _ _) rfl ?_
      exact ⟨rfl, HW.out⟩
theorem sortStable_none (A : Option Addr) (cap : Nat) (fv : Value) (w : World) :
    Calls Try.prog 53 #[.slice A 0 cap, fv] w fun e w' => e = .returned (.tuple #[]) ∧ w' = w := by
  go_enter Try.func53, Try.ntmps53
  go_wp2_with (go_at_call 93; (with_reducible refine (stable_none A cap fv _).mono ?_); rintro e w2 ⟨rfl, rfl⟩)
  refine bodyPost_end (results_none rfl _ _ _) rfl ?_
  exact ⟨rfl, rfl⟩
end Ytjlobjgemhapaaa
end Go.Proofs
namespace Go.Proofs.Ytjlobjgemhapaaa
set_option maxRecDepth 20000
set_option maxRecDepth 20000
open Go.RowKit Go.Maps Go.Sort Go.Shelf

def cmpJ (x y : Int) : Int := if x < y then -1 else if y < x then 1 else 0
theorem jNaN_any (x : Int) (w : World) : Calls Try.prog 94 #[iV x] w fun e w' => e = .returned (.bool false) ∧ w = w' := by
  go_enter Try.func94, Try.ntmps94
  go_wp2
  go_ret
  exact ⟨rfl, rfl⟩
theorem jCompare_any (x y : Int) (w : World) : Calls Try.prog 55 #[iV x, iV y] w fun e w' => e = .returned (iV (cmpJ x y)) ∧ w' = w := by
  by_cases h : x < y
  · have e : cmpJ x y = -1 := if_pos h
    rw [e]
    go_enter Try.func55, Try.ntmps55
    go_wp2_with (go_at_call 94; (with_reducible refine (jNaN_any _ _).mono ?_); rintro e w1 ⟨rfl, rfl⟩)
    go_ret
    exact ⟨rfl, rfl⟩
  · by_cases h2 : y < x
    · have e : cmpJ x y = 1 := by unfold cmpJ; rw [if_neg h, if_pos h2]
      rw [e]
      go_enter Try.func55, Try.ntmps55
      go_wp2_with (go_at_call 94; (with_reducible refine (jNaN_any _ _).mono ?_); rintro e w1 ⟨rfl, rfl⟩)
      go_ret
      exact ⟨rfl, rfl⟩
    · have e : cmpJ x y = 0 := by unfold cmpJ; rw [if_neg h, if_neg h2]
      rw [e]
      go_enter Try.func55, Try.ntmps55
      go_wp2_with (go_at_call 94; (with_reducible refine (jNaN_any _ _).mono ?_); rintro e w1 ⟨rfl, rfl⟩)
      go_ret
      exact ⟨rfl, rfl⟩
set_option maxHeartbeats 4000000 in
theorem cmp4_any {w : World} {A : Option Addr} {c : Nat} {g : List OB} (hg : GAt w A g) (hn : g.length ≤ 900) {bg : Nat} (h0 : w.cell? ⟨bg, 0, none⟩ = some (.slice A g.length c)) (x y : Int) (hx1 : 1 ≤ x) (hx2 : x ≤ g.length) (hy1 : 1 ≤ y) (hy2 : y ≤ g.length) :
    Calls Try.prog 54 #[iV x, iV y, bV bg] w fun e w' => e = .returned (iV (cmpJ (markG g y) (markG g x))) ∧ ∃ q, w' = w.drewN q := by
  obtain ⟨k, o, rfl, ho, hk⟩ := nth_obj hx1 hx2
  obtain ⟨j, p, rfl, hp, hj⟩ := nth_obj hy1 hy2
  obtain ⟨a, sA, sc, rfl, hal, ⟨c0, c1, c2, c3, c4⟩, hs⟩ := hg k o ho
  obtain ⟨a', sA', sc', e, hal', ⟨d0, d1, d2, d3, d4⟩, hs'⟩ := hg j p hp
  obtain rfl : a = a' := by injection e
  rw [markG_at ho, markG_at hp]
  have hl2 : (a.add (k * 5)).block < w.heap.size := by rw [Go.ChangeShapes.block_add]; exact hal
  have hl3 : (a.add (j * 5)).block < w.heap.size := by rw [Go.ChangeShapes.block_add]; exact hal
  clear hg ho hp hs hs' c0 c1 c2 c3 d0 d1 d2 d3 hx1 hx2 hy1 hy2 e
  generalize g.length = nn at *
  generalize o.mark = x at *
  generalize p.mark = y at *
  have CM : Hid (∀ W, Calls Try.prog 55 #[iV y, iV x] W fun e w' => e = .returned (iV (cmpJ y x)) ∧ w' = W) := fun W => jCompare_any y x W
  have hk900 : (k : Int) < 900 := by omega
  have hj900 : (j : Int) < 900 := by omega
  have e1 : IntKind.i64.wrap ((k : Int) + 1 - 1) = (k : Int) := (IntWalk.i64_in _ (by omega)).trans (by omega)
  have e5 : IntKind.i64.wrap (k : Int) = (k : Int) := IntWalk.i64_in _ (by omega)
  have e2 : (0 : Int) ≤ (k : Int) := by omega
  have e3 : ((k : Int)).toNat = k := by omega
  have e4 : (k : Int) < (nn : Int) := by omega
  have f1 : IntKind.i64.wrap ((j : Int) + 1 - 1) = (j : Int) := (IntWalk.i64_in _ (by omega)).trans (by omega)
  have f5 : IntKind.i64.wrap (j : Int) = (j : Int) := IntWalk.i64_in _ (by omega)
  have f2 : (0 : Int) ≤ (j : Int) := by omega
  have f3 : ((j : Int)).toNat = j := by omega
  have f4 : (j : Int) < (nn : Int) := by omega
  go_enter Try.func54, Try.ntmps54
  go_wp2_with fail
  go_quiet ((go_at_call 55; exact Calls.quiet_of_same (CM.out _)))
  go_wp2_with fail
  go_ret
  exact ⟨rfl, _, rfl⟩
def leM (g : List OB) (x y : Int) : Bool := decide (markG g y < markG g x ∨ (markG g x = markG g y ∧ x ≤ y))
def markS (g : List OB) (M : List Int) : List Int := M.mergeSort (leM g)
theorem leM_trans (g : List OB) (a b c : Int) (h1 : leM g a b = true) (h2 : leM g b c = true) : leM g a c = true := by
  unfold leM at *; simp only [decide_eq_true_eq] at *; omega
theorem leM_total (g : List OB) (a b : Int) : (leM g a b || leM g b a) = true := by
  unfold leM; simp only [Bool.or_eq_true, decide_eq_true_eq]; omega
theorem markS_unique {g : List OB} {M Y : List Int} (hp : Y.Perm M) (hs : Y.Pairwise fun x y => leM g x y = true) : Y = markS g M := by
  refine List.Perm.eq_of_pairwise (le := fun x y => leM g x y = true) ?_ hs (List.pairwise_mergeSort (leM_trans g) (leM_total g) M) (hp.trans (List.mergeSort_perm _ _).symm)
  intro a b _ _ h1 h2
  unfold leM at h1 h2
  simp only [decide_eq_true_eq] at h1 h2
  omega
abbrev Num (N : Nat) := {n : Int // 1 ≤ n ∧ n ≤ N}
theorem frm_sw {α : Type} [Inhabited α] {num : α → Int} {w : World} {bk q : Nat} {dk : Array α} {os : Array Obj} : Frm (fun k => k = bk) w (sortWorld (encN num) w bk 0 q dk os) := by
  unfold sortWorld
  refine Frm.trans (w1 := putRow (encN num) (Sort.ahead w q) bk 0 dk) ⟨rfl, rfl, rfl, by simp, fun k _ hn => ?_⟩ ⟨rfl, rfl, rfl, by simp [grow], fun _ hk _ => heap_grow_old _ os hk⟩
  simp only [putRow, mapBlock, Array.getElem?_modify]
  rw [if_neg (fun e => hn e.symm)]
  rfl
theorem cmpJ_lt {x y : Int} : cmpJ x y < 0 ↔ x < y := by
  unfold cmpJ
  by_cases h : x < y
  · rw [if_pos h]; simp [h]
  · rw [if_neg h]; split <;> simp [h]
def cfM (g : List OB) (N : Nat) (x y : Num N) : Int := cmpJ (markG g y.1) (markG g x.1)
theorem ltM {g : List OB} {N : Nat} {x y : Num N} : ltOf (cfM g N) x y = decide (markG g y.1 < markG g x.1) := by
  unfold ltOf cfM
  rw [decide_eq_decide]
  exact cmpJ_lt
theorem swoM (g : List OB) (N : Nat) : SWO (ltOf (cfM g N)) where
  irrefl x := by rw [ltM]; simp
  trans x y z h1 h2 := by rw [ltM] at *; simp only [decide_eq_true_eq] at *; omega
  ntrans x y z h1 h2 := by rw [ltM] at *; simp only [decide_eq_false_iff_not] at *; omega
theorem sorts_marks {w : World} {A : Option Addr} {c : Nat} {g : List OB} (hg : GAt w A g) (hn : g.length ≤ 900) {M : List Int} (hM : ∀ x ∈ M, 1 ≤ x ∧ x ≤ g.length) (hr : M.Pairwise (· < ·)) : Sorts w A g.length c M (markS g M) := by
  intro W v bg base hW hb hbg hc hR
  by_cases hne : M = []
  · subst hne
    obtain ⟨A', c', rfl, _, _⟩ := hR.ints
    refine (sortStable_none A' c' _ W).mono ?_
    rintro e w' ⟨rfl, rfl⟩
    refine ⟨rfl, ?_, Frm.refl _ _⟩
    have e : markS g [] = [] := by simp [markS]
    rw [e]
    exact hR
  · have hlen : M.length ≤ g.length := nums_short (rise_nodup hr) hM
    rcases hR with ⟨_, h⟩ | ⟨blk, cap, rfl, hcap, hblk, hlt, hH⟩
    · exact absurd h hne
    · obtain ⟨m0, hm0⟩ := List.exists_mem_of_ne_nil M hne
      letI : Inhabited (Num g.length) := ⟨⟨m0, hM m0 hm0⟩⟩
      obtain ⟨d0, hd0⟩ : ∃ d0 : Array (Num g.length), d0 = (M.attach.map fun x => (⟨x.1, hM x.1 x.2⟩ : Num g.length)).toArray := ⟨_, rfl⟩
      have hsz : d0.size = M.length := by rw [hd0]; simp
      have hat : ∀ (i : Nat) (h : i < M.length), (FA d0 i).1 = M[i] := fun i h => by
        unfold FA
        rw [getElem!_pos d0 i (by omega)]
        simp [hd0]
      have hold : Holds (encN (fun x : Num g.length => x.1)) W blk 0 d0 := fun j hj => by
        obtain ⟨q1, q2⟩ := hH j (by simpa [hsz] using hj)
        refine ⟨q1.trans ?_, q2⟩
        have hj2 : j < M.length := by omega
        have h3 : (d0[j]!).1 = M[j] := hat j hj2
        show some (Value.int .i64 M.toArray[j]!) = some (Value.int .i64 (d0[j]!).1)
        rw [h3]
        simp [hj2]
      have T : Told (fun x : Num g.length => x.1) (cfM g g.length) 54 #[bV bg] blk d0 W := by
        refine ⟨⟨encN_one _, hold, hlt⟩, fun m os dk hdk x y => ?_, fun _ _ => rfl, swoM g _⟩
        have hf := frm_sw (num := fun x : Num g.length => x.1) (w := W) (bk := blk) (q := m) (dk := dk) (os := os)
        have hB : Below w.heap.size w (sortWorld (encN (fun x : Num g.length => x.1)) W blk 0 m dk os) := hW.trans (hf.below hW.size fun k hk => by omega)
        have hcell := (hf.cell (p := ⟨bg, 0, none⟩) (World.block_lt_of_cell? W _ hc) (by show ¬ bg = blk; omega)).trans hc
        refine (cmp4_any (hg.below hB) hn hcell x.1 y.1 x.2.1 x.2.2 y.2.1 y.2.2).mono ?_
        rintro e w' ⟨rfl, q, rfl⟩
        exact ⟨rfl, q, #[], by rw [grow_empty]⟩
      have hNow : Now (fun x : Num g.length => x.1) blk d0.size W (FA d0) W := ⟨d0, rfl, rfl, SW.start hold⟩
      have := sortStable_any (cap := cap) (R := fun x y : Num g.length => x.1 < y.1) T (by omega) hNow
      rw [hsz] at this
      refine this.mono ?_
      rintro e w' ⟨rfl, F', hm, dk, hdk, rfl, n, os, rfl⟩
      have tie := hm.tie (fun i j hij hj _ _ => by
        show (FA d0 i).1 < (FA d0 j).1
        rw [hat i (by omega), hat j hj]
        exact List.pairwise_iff_getElem.1 hr i j (by omega) hj hij)
      have hY : ((toL (FA dk) M.length).map fun x => x.1) = markS g M := by
        refine markS_unique ?_ ?_
        · have h1 := (hm.mix.perm).map (fun x : Num g.length => x.1)
          refine h1.trans (List.Perm.of_eq ?_)
          refine List.ext_getElem (by simp [toL]) fun i h2 h3 => ?_
          simp only [toL, List.getElem_map, List.getElem_range]
          exact hat i h3
        · rw [List.pairwise_map, List.pairwise_iff_getElem]
          intro i j hi hj hij
          rw [toL_len] at hi hj
          simp only [toL, List.getElem_map, List.getElem_range]
          have o := hm.ord i j (Nat.zero_le _) hij hj
          rw [ltM, decide_eq_false_iff_not] at o
          unfold leM
          rw [decide_eq_true_eq]
          by_cases e : markG g (FA dk j).1 < markG g (FA dk i).1
          · exact .inl e
          · have t := tie i j hij hj (by rw [ltM, decide_eq_false_iff_not]; exact e) (by rw [ltM, decide_eq_false_iff_not]; exact o)
            exact .inr ⟨by omega, by have : (FA dk i).1 < (FA dk j).1 := t; omega⟩
      have hl2 : (markS g M).length = M.length := by rw [← hY]; simp [toL]
      have hF := frm_sw (num := fun x : Num g.length => x.1) (w := W) (bk := blk) (q := n) (dk := dk) (os := os)
      have hH2 : Holds (encN (fun x : Num g.length => x.1)) (sortWorld (encN (fun x : Num g.length => x.1)) W blk 0 n dk os) blk 0 dk := SW.holds ⟨n, os, rfl⟩ hlt hold (by omega)
      refine ⟨rfl, .inr ⟨blk, cap, by rw [hl2], by omega, hblk, Nat.lt_of_lt_of_le hlt hF.size, fun j hj => ?_⟩, hF.mono fun k hk => by rw [hk]; rfl⟩
      have hj2 : j < M.length := by simpa [hl2] using hj
      obtain ⟨q1, q2⟩ := hH2 j (by omega)
      refine ⟨q1.trans ?_, q2⟩
      have : (markS g M).toArray[j]! = (FA dk j).1 := by
        rw [getElem!_pos _ j hj]
        have := List.getElem_of_eq hY.symm (by rw [hl2]; exact hj2)
        simp only [List.getElem_toArray, this, toL, List.getElem_map, List.getElem_range]
      rw [this]
      rfl
end Go.Proofs.Ytjlobjgemhapaaa
