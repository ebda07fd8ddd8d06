/- Base: Small plain lemmas that every text of this seat uses. No walk, no program. | LawPost: From a law's walk to what its row asks: the walk answers true and leaves all that was there ('Below'); then each argument reads as it read, whatever its type. No walk, no program. | ValMath: Plain words on values: what may be, what is an object's, true, a key; the names of kinds and builtins. No walk, no program. | ValMay: The contracts of val.May, Ref, Key, Truth. Each makes memory of its own and leaves what was there. | ValRef: The contracts of the document's own May, Ref, Key, Truth. | ValRefs: The contracts of val.Refs and of the document's own: the numbers of a list's objects, in memory of the call's own. | ValInts: The contract of the document's own comparison of two lists of numbers, where they are alike; lists that a call made, as cells. -/
import Derived.Test.YtjlobjgemhapaaaRows
import Derived.WalkKit
import Derived.WalkSpells
import Derived.WalkLawsBesides
import Derived.Lib.Hide
import Derived.Below
import Derived.Lib.LaidTab
import Derived.Stop.LaidErr
import Derived.WalkSmall
import Derived.ProofKit
import Derived.OpenShut
import Derived.SizedLaws
import Derived.Carry
import Derived.Deep.DeepHandedRow
import Derived.Deep.DeepWitnessRowRef
import Derived.Lib.SmallJoins
import Derived.Deep.RegionHeld3
import Derived.Deep.QuietTactic
import Derived.BigQuiet
import Derived.Deep.AppendLies
namespace Go.Proofs.Ytjlobjgemhapaaa
set_option maxRecDepth 20000
open Go.ChangeShapes Go.WideShapes Go.ChangeAt Go.RowKit
theorem ret_int {k : IntKind} {a b : Int} (h : a = b) : Ending.returned (.int k a) = .returned (.int k b) := by rw [h]
theorem ret_bool {a b : Bool} (h : a = b) : Ending.returned (.bool a) = .returned (.bool b) := by rw [h]
theorem ret_pair {k l : IntKind} {a b c d : Int} (h : a = b) (g : c = d) : Ending.returned (.tuple #[.int k a, .int l c]) = .returned (.tuple #[.int k b, .int l d]) := by rw [h, g]
theorem not_eq {k j : Int} (h : k ≠ j) : (k == j) = false := beq_eq_false_iff_ne.2 h
theorem bcell {W w1 : World} (hb : Below W.heap.size W w1) : (∀ b o, b < W.heap.size → w1.cell? ⟨b, o, none⟩ = W.cell? ⟨b, o, none⟩) ∧ (∀ b o, b < W.heap.size → w1.frozen? ⟨b, o, none⟩ = W.frozen? ⟨b, o, none⟩) :=
  ⟨fun b o h => hb.cell (p := ⟨b, o, none⟩) h, fun b o h => hb.frozen (p := ⟨b, o, none⟩) h⟩
theorem boxed {w w1 : World} {T : TypeId} {cs : Array Value} {j : Nat} {v : Value} (hb : Below (w.alloc (.cells cs T (0, 0))).heap.size (w.alloc (.cells cs T (0, 0))) w1) (hv : cs[j]? = some v) : w1.cell? ⟨w.heap.size, j, none⟩ = some v :=
  (hb.cell (p := ⟨w.heap.size, j, none⟩) (by simp)).trans (by simp [go_sem, hv])
theorem below_box {w w1 : World} {o : Obj} (hb : Below (w.alloc o).heap.size (w.alloc o) w1) : Below w.heap.size w w1 :=
  ((Below.refl _ _).alloc (Nat.le_refl _) _).trans (hb.mono (by simp))
theorem false_of {b : Bool} (h : ¬ b = true) : b = false := by simpa using h
theorem lt_of_var {P : Program} {w : World} {n : String} {cs : Array Value} {g : Nat} (hg : P.globalNamed n = some g) (h : w.var? P n = some cs) : g < w.heap.size := by
  unfold World.var? at h
  simp only [hg, Option.bind_some] at h
  rcases Nat.lt_or_ge g w.heap.size with h' | h'
  · exact h'
  · simp [Array.getElem?_eq_none h'] at h
theorem cells_of_texts {H : Type} {enc : TypeId × Value → H} {P : Program} {w : World} {base : Nat} {sp : Nat → Bool} {held : Bool} {fuel : Nat} {t e : TypeId} {n : Nat} {cs : List Value} {tx : List (List UInt8)} {p : List MemPlace}
    (ht : P.underlying t = some (.array n e)) (he : P.underlying e = some .string) (hce : P.cellsOf e = 1) (hct : P.cellsOf t = n)
    (h : DataW.trod enc P w base sp held fuel t cs = some (.agg (tx.map fun l => .lit (.string l)), p)) (i : Nat) (l : List UInt8) (hl : tx[i]? = some l) : cs[i]? = some (.string ⟨l.toArray⟩) := by
  match fuel, h with
  | fuel + 1, h =>
    simp only [DataW.trod, ht, hce, hct, Nat.mul_one] at h
    split at h
    · obtain ⟨xs, hm, hx⟩ := Option.map_eq_some_iff.1 h
      have hx1 : xs.map (·.1) = tx.map fun l => (DataW.lit (.string l) : DataW H) := by
        have h3 := congrArg Prod.fst hx
        simpa using h3
      have hn : tx.length = n := by
        have h4 := congrArg List.length hx1
        have h5 := Lib.mapM_length hm
        simp at h4 h5
        omega
      have hi : i < n := by rw [← hn]; exact (List.getElem?_eq_some_iff.1 hl).1
      obtain ⟨b, hb, hf⟩ := Lib.mapM_at hm i i (by simp [hi])
      obtain ⟨s, hc, rfl, _⟩ := DataW.trod_string he hf
      have h6 : (xs.map (·.1))[i]? = some (DataW.lit (.string s.data.toList) : DataW H) := by simp [hb]
      rw [hx1, List.getElem?_map, hl] at h6
      simp only [Option.map_some, Option.some.injEq, DataW.lit.injEq, Lit.string.injEq] at h6
      subst h6
      have h7 := congrArg (·[0]?) hc
      have h8 : cs[i]? = some (.string s) := by simpa [List.getElem?_take, List.getElem?_drop] using h7
      rw [h8]
    · cases h
theorem of_wf_i64 {n : Int} (h : (Lit.int .i64 n).wf = true) : -9223372036854775808 ≤ n ∧ n ≤ 9223372036854775807 := by
  have e1 : IntKind.i64.min = -9223372036854775808 := rfl
  have e2 : IntKind.i64.max = 9223372036854775807 := rfl
  simp [Lit.wf, e1, e2] at h
  omega
theorem of_wf_u8 {n : Int} (h : (Lit.int .u8 n).wf = true) : 0 ≤ n ∧ n ≤ 255 := by
  have e1 : IntKind.u8.min = 0 := rfl
  have e2 : IntKind.u8.max = 255 := rfl
  simp [Lit.wf, e1, e2] at h
  omega
theorem str_reach {s : ByteArray} (h : s.data.toList.length ≤ reachBytes) : s.size ≤ 281474976710656 := by
  have h2 := reachBytes_lt
  have e2 : s.data.toList.length = s.size := Array.length_toList
  have e3 : (2 : Nat) ^ 47 = 140737488355328 := by decide
  omega
theorem own_below {w w' : World} {base : Nat} {e : TypeId} {size n : Nat} {v : Value} {xs : List Value} (h : w.ownsRow base e size v n xs) (hb : Below w.heap.size w w') : w'.ownsRow base e size v n xs :=
  h.kept (row := none) ⟨hb.os, hb.tape, hb.output, hb.size, fun k hk _ => hb.block k hk⟩ (by cases v.ownBlock <;> simp)
theorem below_drewN {B : Nat} {a w : World} (h : Below B a w) (n : Nat) : Below B a (w.drewN n) := ⟨h.os, h.tape, h.output, h.size, h.block⟩
theorem one_cell {w : World} {x : Value} {E : TypeId} : ∀ j u, [x][j]? = some u → (w.alloc (.cells #[x] E)).cell? ((⟨w.heap.size, 0, none⟩ : Addr).add j) = some u := by
  intro j u hu
  match j, hu with
  | 0, hu => simp at hu; subst hu; simp [Addr.add, go_sem]
theorem add_one (a : Addr) : a.add 1 = ⟨a.block, a.off + 1, none⟩ := by simp [Addr.add]
end Go.Proofs.Ytjlobjgemhapaaa
namespace Go.Proofs.Ytjlobjgemhapaaa
set_option maxRecDepth 20000
open Go.ChangeShapes Go.WideShapes Go.ChangeAt Go.RowKit

theorem trodAll_below {H : Type} {enc : TypeId × Value → H} {P : Program} (hl : laidOutB P = true) {W W' : World} (hb : Below W.heap.size W W') :
    ∀ {ts : List TypeId} {vs : List Value} {ds : List (DataW H)} {ps : List MemPlace}, (ts.all fun t => P.readableRec t && decide (t < P.types.size)) = true → DataW.TrodAll enc P W 0 (fun _ => true) true ts vs ds ps →
      (∀ x ∈ ps, x.block < W.heap.size) → DataW.TrodAll enc P W' 0 (fun b => decide (b < W.heap.size)) true ts vs ds ps
  | [], [], [], _, _, h, _ => h
  | t :: ts, v :: vs, d :: ds, ps, ha, ⟨p, q, h1, h2, e⟩, hlt => by
    simp only [List.all_cons, Bool.and_eq_true, decide_eq_true_eq] at ha
    subst e
    exact ⟨p, q, Below.trod hl ha.1.1 ha.1.2 h1 hb (fun x hx => hlt x (by simp [hx])), trodAll_below hl hb (by simpa using ha.2) h2 (fun x hx => hlt x (by simp [hx])), rfl⟩
/-- What a row that answers true and hands back its arguments asks. -/
theorem law_post {H : Type} {enc : TypeId × Value → H} {P : Program} {f : Func} {nm : String} {fn : (H : Type) → List (DataW H) → Left H} {W W' : World} {args : Array Value} {ds gs : List (DataW H)} {before : List MemPlace}
    (hl : laidOutB P = true) (hts : (f.params.toList.all fun t => P.readableRec t && decide (t < P.types.size)) = true) {T : TypeId} (hr : f.resultTypes = #[T]) (hT : P.underlying T = some .bool)
    (hW : DataW.Whole enc P f.params.toList [] false W args.toList ds gs before) (hb : Below W.heap.size W W') (hfn : fn H ds = { results := [.lit (.bool true)], args := ds }) :
    (ChangeSpec.mk nm [] fn).post enc P f false true false false W args (.bool true) W' := by
  have hlt : ∀ p ∈ before, p.block < W.heap.size := fun p hp => hW.lt p hp
  have hW' := hW
  obtain ⟨p, q, hA, hV, rfl, hfz, hnd⟩ := hW
  obtain ⟨rfl, rfl⟩ := trodVars_none hV
  refine ⟨ds, [], _, [], p, [], hW', ?_, ?_, ?_, hb.frame _, fun h => by cases h⟩
  · simp only [List.append_nil]
    rw [hfn, hr]
    exact trodAll_cons_mk (shut_bool hT _) trodAll_mk0
  · simp only [List.append_nil]
    rw [hfn]
    exact trodAll_below hl hb hts hA (fun x hx => hlt x (by simp [hx]))
  · simp only [List.append_nil]
    rw [hfn]
    rfl

/-- A slice argument's room: so many elements of so many bytes. -/
theorem slice_room {P : Program} {H : Type} {ts : List TypeId} {ds : List (DataW H)} (h : (DataW.weightsEach P ts ds).all (· ≤ reachBytes) = true) {j : Nat} {t e : TypeId} {elems spare : List (DataW H)} (ht : ts[j]? = some t) (hd : ds[j]? = some (.slice elems spare)) (hu : P.underlying t = some (.slice e))
    {b : Nat} (hb : P.bytesOf e = b) : elems.length * b ≤ 140737488351232 := by
  have := sized_slice h ht hd hu
  rw [hb] at this
  have e : reachBytes = 140737488351232 := by decide
  rw [e] at this
  exact Nat.le_trans (Nat.mul_le_mul_right _ (Nat.le_add_right _ _)) this
end Go.Proofs.Ytjlobjgemhapaaa
namespace Go.Proofs.Ytjlobjgemhapaaa
set_option maxRecDepth 20000
open Go.RowKit

def mayB (k n : Int) : Bool := decide ((k = 0 ∨ k = 1) ∧ n = 0 ∨ k = 2 ∧ 0 ≤ n ∧ n ≤ 1 ∨ k = 3 ∨ k = 4 ∧ 0 ≤ n ∧ n ≤ 12 ∨ 5 ≤ k ∧ k ≤ 9 ∧ 1 ≤ n ∧ n ≤ 2147483647)
def refB (k n : Int) : Bool := decide (mayB k n = true ∧ 5 ≤ k)
def keyB (k n : Int) : Bool := decide (mayB k n = true ∧ 1 < k)
def truthB (k n : Int) : Bool := decide (mayB k n = true ∧ 1 < k ∧ ¬ (k = 2 ∧ n = 0))
theorem mayB_iff {k n : Int} : mayB k n = true ↔ ((k = 0 ∨ k = 1) ∧ n = 0 ∨ k = 2 ∧ 0 ≤ n ∧ n ≤ 1 ∨ k = 3 ∨ k = 4 ∧ 0 ≤ n ∧ n ≤ 12 ∨ 5 ≤ k ∧ k ≤ 9 ∧ 1 ≤ n ∧ n ≤ 2147483647) := by simp [mayB]
theorem refB_iff {k n : Int} : refB k n = true ↔ mayB k n = true ∧ 5 ≤ k := by simp [refB]
theorem keyB_iff {k n : Int} : keyB k n = true ↔ mayB k n = true ∧ 1 < k := by simp [keyB]
theorem truthB_iff {k n : Int} : truthB k n = true ↔ mayB k n = true ∧ 1 < k ∧ ¬ (k = 2 ∧ n = 0) := by
  unfold truthB; exact decide_eq_true_iff
theorem bool_eq {a : Bool} {p : Prop} [Decidable p] (h : a = true ↔ p) : a = decide p := by
  cases a <;> simp at h <;> simp [h]

def kindL : Nat → List UInt8
  | 0 => [110, 111, 110, 101] | 1 => [110, 105, 108] | 2 => [98, 111, 111, 108] | 3 => [105, 110, 116] | 4 => [98, 117, 105, 108, 116, 105, 110] | 5 => [115, 116, 114, 105, 110, 103]
  | 6 => [116, 97, 98, 108, 101] | 7 => [102, 117, 110, 99, 116, 105, 111, 110] | 8 => [99, 111, 114, 111, 117, 116, 105, 110, 101] | 9 => [99, 101, 108, 108]
  | _ => []
def libL : Nat → List UInt8
  | 0 => [111, 117, 116] | 1 => [101, 114, 114, 111, 114] | 2 => [116, 121, 112, 101] | 3 => [115, 101, 116, 109, 101, 116, 97] | 4 => [103, 101, 116, 109, 101, 116, 97] | 5 => [114, 97, 119, 103, 101, 116]
  | 6 => [114, 97, 119, 115, 101, 116] | 7 => [110, 101, 120, 116] | 8 => [99, 111, 108, 108, 101, 99, 116] | 9 => [99, 114, 101, 97, 116, 101] | 10 => [114, 101, 115, 117, 109, 101] | 11 => [121, 105, 101, 108, 100] | 12 => [115, 116, 97, 116, 117, 115]
  | _ => []
def kindT (k : Nat) : ByteArray := ⟨(kindL k).toArray⟩
def libT (k : Nat) : ByteArray := ⟨(libL k).toArray⟩
def nameB (k : Int) : ByteArray := if 0 ≤ k ∧ k ≤ 9 then kindT k.toNat else ⟨#[]⟩
def libB (k : Int) : ByteArray := if 0 ≤ k ∧ k ≤ 12 then libT k.toNat else ⟨#[]⟩
def libI (t : ByteArray) : Int := match (List.range 13).find? (fun k => (libT k).toList == t.toList) with
  | some k => k
  | none => -1
theorem libI_at {t : ByteArray} {k : Nat} (hk : k < 13) (h : ((libT k).toList == t.toList) = true) (hn : ∀ j, j < k → ((libT j).toList == t.toList) = false) : libI t = k := by
  unfold libI
  have e : (List.range 13).find? (fun k => (libT k).toList == t.toList) = some k := by
    rw [List.find?_range_eq_some]
    exact ⟨h, by simpa using hk, fun j hj => by simp [hn j hj]⟩
  rw [e]
theorem libI_none {t : ByteArray} (hn : ∀ j, j < 13 → ((libT j).toList == t.toList) = false) : libI t = -1 := by
  unfold libI
  have e : (List.range 13).find? (fun k => (libT k).toList == t.toList) = none := by
    rw [List.find?_range_eq_none]
    intro j hj; simp [hn j hj]
  rw [e]
end Go.Proofs.Ytjlobjgemhapaaa
namespace Go.Proofs.Ytjlobjgemhapaaa
set_option maxRecDepth 20000
open Go.RowKit

set_option maxHeartbeats 400000 in
theorem cl_within (n lo hi : Int) (a b : Addr) (w : World) (ha : w.cell? a = some (.int .i64 lo)) (hb : w.cell? b = some (.int .i64 hi)) :
    Calls Try.prog 190 #[.int .i64 n, .pointer (some a), .pointer (some b)] w fun e w' => e = .returned (.bool (decide (lo ≤ n ∧ n ≤ hi))) ∧ w' = w := by
  by_cases h1 : lo ≤ n <;> by_cases h2 : n ≤ hi
  all_goals
    first
    | rw [show decide (lo ≤ n ∧ n ≤ hi) = true by simp; omega]
    | rw [show decide (lo ≤ n ∧ n ≤ hi) = false by simp; omega]
    go_enter Try.func190, Try.ntmps190
    go_wp2
    go_ret
    exact ⟨rfl, rfl⟩
theorem cl_all (n : Int) (w : World) : Calls Try.prog 178 #[.int .i64 n] w fun e w' => e = .returned (.bool true) ∧ w' = w := by
  go_enter Try.func178, Try.ntmps178
  go_wp2
  go_ret
  exact ⟨rfl, rfl⟩
theorem cl_none (n : Int) (w : World) : Calls Try.prog 179 #[.int .i64 n] w fun e w' => e = .returned (.bool false) ∧ w' = w := by
  go_enter Try.func179, Try.ntmps179
  go_wp2
  go_ret
  exact ⟨rfl, rfl⟩
theorem hmf : ∀ (fn : Fn) (first cap : Array Value) (w : World), (Instr.makeFunc fn first cap).run Try.prog w = .ok (.func fn first cap) w := fun _ _ _ _ => rfl
theorem within_any (lo hi : Int) (w : World) :
    Calls Try.prog 177 #[.int .i64 lo, .int .i64 hi] w fun e w' => e = .returned (.func (.func 190) #[] #[.pointer (some ⟨w.heap.size, 0, none⟩), .pointer (some ⟨w.heap.size + 1, 0, none⟩)]) ∧ w' = (w.alloc (.cells #[.int .i64 lo] 2 (0, 0))).alloc (.cells #[.int .i64 hi] 2 (0, 0)) := by
  have hmf := hmf
  go_enter Try.func177, Try.ntmps177
  go_wp2
  go_ret
  exact ⟨rfl, rfl⟩
/-- The kinds whose N lies between two numbers. -/
def KindIn (k lo hi : Int) : Prop := (k = 0 ∨ k = 1) ∧ lo = 0 ∧ hi = 0 ∨ k = 2 ∧ lo = 0 ∧ hi = 1 ∨ k = 4 ∧ lo = 0 ∧ hi = 12 ∨ (k = 5 ∨ k = 6 ∨ k = 7 ∨ k = 8 ∨ k = 9) ∧ lo = 1 ∧ hi = 2147483647
set_option maxHeartbeats 1000000 in
theorem has_in (k lo hi : Int) (w : World) (h : KindIn k lo hi) :
    Calls Try.prog 151 #[.int .i64 k] w fun e w' => e = .returned (.func (.func 190) #[] #[.pointer (some ⟨w.heap.size, 0, none⟩), .pointer (some ⟨w.heap.size + 1, 0, none⟩)]) ∧ w' = (w.alloc (.cells #[.int .i64 lo] 2 (0, 0))).alloc (.cells #[.int .i64 hi] 2 (0, 0)) := by
  rcases h with ⟨rfl | rfl, rfl, rfl⟩ | ⟨rfl, rfl, rfl⟩ | ⟨rfl, rfl, rfl⟩ | ⟨rfl | rfl | rfl | rfl | rfl, rfl, rfl⟩
  all_goals
    go_enter Try.func151, Try.ntmps151
    go_wp2_with (go_at_call 177; refine (within_any _ _ _).mono ?_; rintro e w' ⟨rfl, rfl⟩)
    go_ret
    exact ⟨rfl, rfl⟩
theorem has_all (w : World) :
    Calls Try.prog 151 #[.int .i64 3] w fun e w' => e = .returned (.func (.func 178) #[] #[]) ∧ w' = w := by
  go_enter Try.func151, Try.ntmps151
  go_wp2
  go_ret
  exact ⟨rfl, rfl⟩
theorem has_none (k : Int) (w : World) (h : k < 0 ∨ 9 < k) :
    Calls Try.prog 151 #[.int .i64 k] w fun e w' => e = .returned (.func (.func 179) #[] #[]) ∧ w' = w := by
  have h0 : (k == 0) = false := beq_eq_false_iff_ne.2 (by omega)
  have h1 : (k == 1) = false := beq_eq_false_iff_ne.2 (by omega)
  have h2 : (k == 2) = false := beq_eq_false_iff_ne.2 (by omega)
  have h3 : (k == 3) = false := beq_eq_false_iff_ne.2 (by omega)
  have h4 : (k == 4) = false := beq_eq_false_iff_ne.2 (by omega)
  have h5 : (k == 5) = false := beq_eq_false_iff_ne.2 (by omega)
  have h6 : (k == 6) = false := beq_eq_false_iff_ne.2 (by omega)
  have h7 : (k == 7) = false := beq_eq_false_iff_ne.2 (by omega)
  have h8 : (k == 8) = false := beq_eq_false_iff_ne.2 (by omega)
  have h9 : (k == 9) = false := beq_eq_false_iff_ne.2 (by omega)
  clear h
  go_enter Try.func151, Try.ntmps151
  go_wp2
  go_ret
  exact ⟨rfl, rfl⟩

set_option maxHeartbeats 1000000 in
theorem May_in (k n lo hi : Int) (w : World) (h : KindIn k lo hi) :
    Calls Try.prog 98 #[.agg #[.int .i64 k, .int .i64 n]] w fun e w' => e = .returned (.bool (decide (lo ≤ n ∧ n ≤ hi))) ∧ Below w.heap.size w w' := by
  have C := Lib.hid (fun w => has_in k lo hi w h)
  clear h
  go_enter Try.func98, Try.ntmps98
  go_wp2
  go_region_held3 (fun w' => w'.cell? ⟨w.heap.size, 0, none⟩ = some (.int .i64 k) ∧ w'.cell? ⟨w.heap.size, 1, none⟩ = some (.int .i64 n)) (go_keep)
    (first | (go_at_call 151; refine (C.out _).mono ?_; rintro e w' ⟨rfl, rfl⟩) | (go_at_call 190; refine (cl_within n lo hi _ _ _ ?_ ?_).mono ?_; (simp [go_sem]); (simp [go_sem]); rintro e w' ⟨rfl, rfl⟩))
  go_wp2_with fail
  go_ret
  refine ⟨by simp, ?_⟩
  exact ((((Below.refl _ _).alloc (Nat.le_refl _) _).drew).alloc (by simp) _).alloc (by simp; omega) _
set_option maxHeartbeats 1000000 in
theorem May_all (n : Int) (w : World) :
    Calls Try.prog 98 #[.agg #[.int .i64 3, .int .i64 n]] w fun e w' => e = .returned (.bool true) ∧ Below w.heap.size w w' := by
  have C := Lib.hid has_all
  go_enter Try.func98, Try.ntmps98
  go_wp2
  go_region_held3 (fun w' => w'.cell? ⟨w.heap.size, 0, none⟩ = some (.int .i64 3) ∧ w'.cell? ⟨w.heap.size, 1, none⟩ = some (.int .i64 n)) (go_keep)
    (first | (go_at_call 151; refine (C.out _).mono ?_; rintro e w' ⟨rfl, hq⟩; obtain rfl := hq.symm) | (go_at_call 178; refine (cl_all _ _).mono ?_; rintro e w' ⟨rfl, hq⟩; obtain rfl := hq.symm))
  go_wp2_with fail
  go_ret
  exact ⟨rfl, ((Below.refl _ _).alloc (Nat.le_refl _) _).drew⟩
set_option maxHeartbeats 1000000 in
theorem May_none (k n : Int) (w : World) (h : k < 0 ∨ 9 < k) :
    Calls Try.prog 98 #[.agg #[.int .i64 k, .int .i64 n]] w fun e w' => e = .returned (.bool false) ∧ Below w.heap.size w w' := by
  have C := Lib.hid (fun w => has_none k w h)
  clear h
  go_enter Try.func98, Try.ntmps98
  go_wp2
  go_region_held3 (fun w' => w'.cell? ⟨w.heap.size, 0, none⟩ = some (.int .i64 k) ∧ w'.cell? ⟨w.heap.size, 1, none⟩ = some (.int .i64 n)) (go_keep)
    (first | (go_at_call 151; refine (C.out _).mono ?_; rintro e w' ⟨rfl, hq⟩; obtain rfl := hq.symm) | (go_at_call 179; refine (cl_none _ _).mono ?_; rintro e w' ⟨rfl, hq⟩; obtain rfl := hq.symm))
  go_wp2_with fail
  go_ret
  exact ⟨rfl, ((Below.refl _ _).alloc (Nat.le_refl _) _).drew⟩
/-- val.May. -/
theorem May_any (k n : Int) (w : World) :
    Calls Try.prog 98 #[.agg #[.int .i64 k, .int .i64 n]] w fun e w' => e = .returned (.bool (mayB k n)) ∧ Below w.heap.size w w' := by
  by_cases h3 : k = 3
  · subst h3
    rw [show mayB 3 n = true from mayB_iff.2 (by omega)]
    exact May_all n w
  · by_cases hk : k < 0 ∨ 9 < k
    · rw [show mayB k n = false from Bool.eq_false_iff.2 (fun e => by have := mayB_iff.1 e; omega)]
      exact May_none k n w hk
    · obtain ⟨lo, hi, h⟩ : ∃ lo hi, KindIn k lo hi := by
        unfold KindIn
        by_cases a : k = 0 ∨ k = 1
        · exact ⟨0, 0, by omega⟩
        · by_cases b : k = 2
          · exact ⟨0, 1, by omega⟩
          · by_cases c : k = 4
            · exact ⟨0, 12, by omega⟩
            · exact ⟨1, 2147483647, by omega⟩
      rw [show mayB k n = decide (lo ≤ n ∧ n ≤ hi) from bool_eq (mayB_iff.trans (by unfold KindIn at h; omega))]
      exact May_in k n lo hi w h
/-- val.Ref. -/
theorem Ref_any (k n : Int) (w : World) :
    Calls Try.prog 62 #[.agg #[.int .i64 k, .int .i64 n]] w fun e w' => e = .returned (.bool (refB k n)) ∧ Below w.heap.size w w' := by
  have C := Lib.hid (May_any k n)
  cases hm : mayB k n with
  | true =>
    rw [hm] at C
    by_cases hk : 5 ≤ k
    all_goals
      first | have hd := decide_eq_false hk | have hd := decide_eq_true hk
      first | rw [show refB k n = true from refB_iff.2 ⟨hm, hk⟩] | rw [show refB k n = false from false_of (fun e => hk (refB_iff.1 e).2)]
      clear hm hk
      go_enter Try.func62, Try.ntmps62
      go_wp2_with (go_at_call 98; refine (C.out _).mono ?_; rintro e w1 ⟨rfl, hb⟩; have hc0 := boxed hb (j := 0) rfl; have B := Lib.hid (below_box hb); clear hb)
      go_ret
      exact ⟨rfl, B.out⟩
  | false =>
    rw [hm] at C
    rw [show refB k n = false from false_of (fun e => by rw [(refB_iff.1 e).1] at hm; cases hm)]
    clear hm
    go_enter Try.func62, Try.ntmps62
    go_wp2_with (go_at_call 98; refine (C.out _).mono ?_; rintro e w1 ⟨rfl, hb⟩; have hc0 := boxed hb (j := 0) rfl; have B := Lib.hid (below_box hb); clear hb)
    go_ret
    exact ⟨rfl, B.out⟩
end Go.Proofs.Ytjlobjgemhapaaa
namespace Go.Proofs.Ytjlobjgemhapaaa
set_option maxRecDepth 20000
open Go.RowKit

set_option maxHeartbeats 1000000 in
theorem RMay_small (k n : Int) (w : World) (h : k = 0 ∨ k = 1 ∨ k = 2 ∨ k = 3 ∨ k = 4) :
    Calls Try.prog 136 #[.agg #[.int .i64 k, .int .i64 n]] w fun e w' => e = .returned (.bool (mayB k n)) ∧ Below w.heap.size w w' := by
  have M := Lib.hid (@mayB_iff k n)
  by_cases n0 : n = 0
  · subst n0
    rcases h with rfl | rfl | rfl | rfl | rfl
    all_goals
      go_enter Try.func136, Try.ntmps136
      go_wp2
      go_ret
      exact ⟨rfl, (Below.refl _ _).alloc (Nat.le_refl _) _⟩
  · have n0' := not_eq n0
    by_cases n1 : n = 1
    · subst n1
      rcases h with rfl | rfl | rfl | rfl | rfl
      all_goals
        go_enter Try.func136, Try.ntmps136
        go_wp2
        go_ret
        exact ⟨rfl, (Below.refl _ _).alloc (Nat.le_refl _) _⟩
    · have n1' := not_eq n1
      by_cases n2 : 0 ≤ n
      · by_cases n3 : n ≤ 12
        all_goals
          have R : Hid (mayB k n = decide (k = 3 ∨ k = 4 ∧ 0 ≤ n ∧ n ≤ 12)) := bool_eq (M.out.trans (by omega))
          rcases h with rfl | rfl | rfl | rfl | rfl
          all_goals
            have R2 := R.out
            simp only [n2, n3] at R2
            first | rw [show mayB 0 n = false from R2] | rw [show mayB 1 n = false from R2] | rw [show mayB 2 n = false from R2] | rw [show mayB 3 n = true from R2] | rw [show mayB 4 n = true from R2] | rw [show mayB 4 n = false from R2]
            clear R2 R M n0 n1
            go_enter Try.func136, Try.ntmps136
            go_wp2
            go_ret
            exact ⟨rfl, (Below.refl _ _).alloc (Nat.le_refl _) _⟩
      · have R : Hid (mayB k n = decide (k = 3)) := bool_eq (M.out.trans (by omega))
        rcases h with rfl | rfl | rfl | rfl | rfl
        all_goals
          have R2 := R.out
          first | rw [show mayB 0 n = false from R2] | rw [show mayB 1 n = false from R2] | rw [show mayB 2 n = false from R2] | rw [show mayB 3 n = true from R2] | rw [show mayB 4 n = false from R2]
          clear R2 R M n0 n1
          go_enter Try.func136, Try.ntmps136
          go_wp2
          go_ret
          exact ⟨rfl, (Below.refl _ _).alloc (Nat.le_refl _) _⟩
set_option maxHeartbeats 1000000 in
theorem RMay_great (k n : Int) (w : World) (h0 : k ≠ 0) (h1 : k ≠ 1) (h2 : k ≠ 2) (h3 : k ≠ 3) (h4 : k ≠ 4) :
    Calls Try.prog 136 #[.agg #[.int .i64 k, .int .i64 n]] w fun e w' => e = .returned (.bool (mayB k n)) ∧ Below w.heap.size w w' := by
  have R : Hid (mayB k n = decide (5 ≤ k ∧ k ≤ 9 ∧ 1 ≤ n ∧ n ≤ 2147483647)) := bool_eq (mayB_iff.trans (by omega))
  have e0 := not_eq h0
  have e1 := not_eq h1
  have e2 := not_eq h2
  have e3 := not_eq h3
  have e4 := not_eq h4
  clear h0 h1 h2 h3 h4
  by_cases a : 5 ≤ k
  · by_cases b : k ≤ 9
    · by_cases c : 1 ≤ n
      · by_cases d : n ≤ 2147483647
        · rw [R.out, decide_eq_true ⟨a, b, c, d⟩]
          clear R
          go_enter Try.func136, Try.ntmps136
          go_wp2
          go_ret
          exact ⟨rfl, (Below.refl _ _).alloc (Nat.le_refl _) _⟩
        · rw [R.out, decide_eq_false (fun h => d h.2.2.2)]
          have x := decide_eq_false d
          clear R d
          go_enter Try.func136, Try.ntmps136
          go_wp2
          go_ret
          exact ⟨rfl, (Below.refl _ _).alloc (Nat.le_refl _) _⟩
      · rw [R.out, decide_eq_false (fun h => c h.2.2.1)]
        have x := decide_eq_false c
        clear R c
        go_enter Try.func136, Try.ntmps136
        go_wp2
        go_ret
        exact ⟨rfl, (Below.refl _ _).alloc (Nat.le_refl _) _⟩
    · rw [R.out, decide_eq_false (fun h => b h.2.1)]
      have x := decide_eq_false b
      clear R b
      go_enter Try.func136, Try.ntmps136
      go_wp2
      go_ret
      exact ⟨rfl, (Below.refl _ _).alloc (Nat.le_refl _) _⟩
  · rw [R.out, decide_eq_false (fun h => a h.1)]
    have x := decide_eq_false a
    clear R a
    go_enter Try.func136, Try.ntmps136
    go_wp2
    go_ret
    exact ⟨rfl, (Below.refl _ _).alloc (Nat.le_refl _) _⟩
/-- tallowref02.May. -/
theorem RMay_any (k n : Int) (w : World) :
    Calls Try.prog 136 #[.agg #[.int .i64 k, .int .i64 n]] w fun e w' => e = .returned (.bool (mayB k n)) ∧ Below w.heap.size w w' := by
  by_cases h : k = 0 ∨ k = 1 ∨ k = 2 ∨ k = 3 ∨ k = 4
  · exact RMay_small k n w h
  · exact RMay_great k n w (by omega) (by omega) (by omega) (by omega) (by omega)
/-- tallowref02.Ref. -/
theorem RRef_any (k n : Int) (w : World) :
    Calls Try.prog 89 #[.agg #[.int .i64 k, .int .i64 n]] w fun e w' => e = .returned (.bool (refB k n)) ∧ Below w.heap.size w w' := by
  have C := Lib.hid (RMay_any k n)
  cases hm : mayB k n with
  | true =>
    rw [hm] at C
    by_cases hk : 5 ≤ k
    all_goals
      first | have hd := decide_eq_false hk | have hd := decide_eq_true hk
      first | rw [show refB k n = true from refB_iff.2 ⟨hm, hk⟩] | rw [show refB k n = false from false_of (fun e => hk (refB_iff.1 e).2)]
      clear hm hk
      go_enter Try.func89, Try.ntmps89
      go_wp2_with (go_at_call 136; refine (C.out _).mono ?_; rintro e w1 ⟨rfl, hb⟩; have hc0 := boxed hb (j := 0) rfl; have B := Lib.hid (below_box hb); clear hb)
      go_ret
      exact ⟨rfl, B.out⟩
  | false =>
    rw [hm] at C
    rw [show refB k n = false from false_of (fun e => by rw [(refB_iff.1 e).1] at hm; cases hm)]
    clear hm
    go_enter Try.func89, Try.ntmps89
    go_wp2_with (go_at_call 136; refine (C.out _).mono ?_; rintro e w1 ⟨rfl, hb⟩; have hc0 := boxed hb (j := 0) rfl; have B := Lib.hid (below_box hb); clear hb)
    go_ret
    exact ⟨rfl, B.out⟩
theorem may_nonneg {k n : Int} (h : mayB k n = true) : 0 ≤ k := by have := mayB_iff.1 h; omega
end Go.Proofs.Ytjlobjgemhapaaa
namespace Go.Proofs.Ytjlobjgemhapaaa
set_option maxRecDepth 20000
open Go.RowKit

/-- The numbers of a list's objects. -/
def refsL (l : List (Int × Int)) : List Int := (l.filter fun p => refB p.1 p.2).map (·.2)
theorem refsL_snoc_yes {l : List (Int × Int)} {k : Nat} {p : Int × Int} (h : l[k]? = some p) (hr : refB p.1 p.2 = true) : refsL (l.take (k + 1)) = refsL (l.take k) ++ [p.2] := by
  unfold refsL; rw [List.take_add_one, h, List.filter_append]; simp [hr]
theorem refsL_snoc_no {l : List (Int × Int)} {k : Nat} {p : Int × Int} (h : l[k]? = some p) (hr : refB p.1 p.2 = false) : refsL (l.take (k + 1)) = refsL (l.take k) := by
  unfold refsL; rw [List.take_add_one, h, List.filter_append]; simp [hr]
theorem refsL_len (l : List (Int × Int)) : (refsL l).length ≤ l.length := by unfold refsL; rw [List.length_map]; exact List.length_filter_le _ _
/-- The slice's cells hold the pairs l. -/
def PairsAt (w : World) (A : Option Addr) (l : List (Int × Int)) : Prop :=
  ∀ i p, l[i]? = some p → ∃ ad, A = some ad ∧ ad.block < w.heap.size ∧ w.cell? (ad.add (i * 2)) = some (.int .i64 p.1) ∧ w.cell? ((ad.add (i * 2)).add 1) = some (.int .i64 p.2)
theorem pairs_below {w w' : World} {A : Option Addr} {l : List (Int × Int)} (h : PairsAt w A l) (hb : Below w.heap.size w w') : PairsAt w' A l := by
  intro i p hp
  obtain ⟨ad, e, hl, h0, h1⟩ := h i p hp
  exact ⟨ad, e, Nat.lt_of_lt_of_le hl hb.size, (hb.cell (by rw [Go.ChangeShapes.block_add]; exact hl)).trans h0, (hb.cell (by rw [Go.ChangeShapes.block_add, Go.ChangeShapes.block_add]; exact hl)).trans h1⟩
/-- The cells of a list of values. -/
def pairCells (l : List (Int × Int)) : List Value := l.flatMap fun p => [.int .i64 p.1, .int .i64 p.2]
theorem pairCells_at : ∀ (l : List (Int × Int)) (i : Nat) (p : Int × Int), l[i]? = some p → (pairCells l)[i * 2]? = some (.int .i64 p.1) ∧ (pairCells l)[i * 2 + 1]? = some (.int .i64 p.2)
  | [], i, p, h => by simp at h
  | x :: r, 0, p, h => by
    simp at h; subst h
    exact ⟨rfl, rfl⟩
  | x :: r, i + 1, p, h => by
    have := pairCells_at r i p (by simpa using h)
    rw [show (i + 1) * 2 = i * 2 + 1 + 1 by omega]
    exact this
theorem pairs_alloc (l : List (Int × Int)) (w : World) (T : TypeId) : PairsAt (w.alloc (.cells (pairCells l).toArray T (0, 0))) (some ⟨w.heap.size, 0, none⟩) l := by
  intro i p h
  obtain ⟨h0, h1⟩ := pairCells_at l i p h
  have e : ∀ j, (⟨w.heap.size, 0, none⟩ : Addr).add j = ⟨w.heap.size, j, none⟩ := fun j => by unfold Addr.add; split <;> simp_all
  refine ⟨_, rfl, by simp, ?_, ?_⟩
  · rw [e]; simp [go_sem, h0]
  · rw [e, add_one]; simp [go_sem, h1]
def GivesInts (l : List Int) (w : World) (e : Ending) (w' : World) : Prop := ∃ v, e = .returned v ∧ w'.ownsRow w.heap.size 3 1 v l.length (l.map (Value.int .i64)) ∧ Below w.heap.size w w'
theorem int_info : (Try.prog.info? 3).map (fun i => (i.zero, i.size, i.bytes)) = some (some (.int .i64 0), 1, 8) := by kernel_rfl
theorem refs_step {w w1 w2 : World} {v v' : Value} {L L' : List Int} {x : Int} {o : Obj} (hown1 : w1.ownsRow w.heap.size 3 1 v L.length (L.map (Value.int .i64))) (hb : Below w.heap.size w w1)
    (hown2 : w2.ownsRow w.heap.size 3 1 v' (L.length + 1) (L.map (Value.int .i64) ++ [.int .i64 x])) (hg : (w1.alloc o).grownBy w2 v.ownBlock) (e : L' = L ++ [x]) :
    w2.ownsRow w.heap.size 3 1 v' L'.length (L'.map (Value.int .i64)) ∧ Below w.heap.size w w2 := by
  subst e
  refine ⟨by simpa using hown2, (hb.alloc hb.size o).grown hg (by have := hb.size; simp; omega) fun k hk => (hown1.lt k hk).1⟩

set_option maxHeartbeats 1000000 in
theorem Refs_some (ad : Addr) (c : Nat) (l : List (Int × Int)) (w : World) (hl : l.length * 16 ≤ 140737488355328) (h : PairsAt w (some ad) l) :
    Calls Try.prog 20 #[.slice (some ad) l.length c] w (GivesInts (refsL l) w) := by
  obtain ⟨i0, hi, hz0, hz1, hz2⟩ := info_parts int_info
  have H := Lib.hid h
  clear h
  go_enter Try.func20, Try.ntmps20
  go_wp2_with fail
  go_loopw [3, 8] (fun v i wr => ∃ k : Nat, k ≤ l.length ∧ i = .int .i64 k ∧ wr.ownsRow w.heap.size 3 1 v (refsL (l.take k)).length ((refsL (l.take k)).map (Value.int .i64)) ∧ Below w.heap.size w wr) (fun _ i _ => l.length - (intOf i).toNat)
  case atStart => exact ⟨0, Nat.zero_le _, rfl, World.ownsRow_nil _ _ _ _, Below.refl _ _⟩
  case round =>
    obtain ⟨k, hk, rfl, hown, hb⟩ := hrel
    by_cases hlt : k < l.length
    · obtain ⟨p, hp⟩ : ∃ p, l[k]? = some p := ⟨_, List.getElem?_eq_getElem hlt⟩
      obtain ⟨ad', e, hbl, hc0, hc1⟩ := H.out k p hp
      obtain rfl : ad = ad' := by injection e
      have d0 := (hb.cell (by rw [Go.ChangeShapes.block_add]; exact hbl)).trans hc0
      have d1 := (hb.cell (by rw [Go.ChangeShapes.block_add, Go.ChangeShapes.block_add]; exact hbl)).trans hc1
      rw [add_one] at d1
      clear hc0 hc1
      cases hr : refB p.1 p.2 with
      | true =>
        have C := Lib.hid (Ref_any p.1 p.2)
        rw [hr] at C
        have E := Lib.hid (refsL_snoc_yes hp hr)
        have hlen := refsL_len (l.take k)
        have hlen2 : (l.take k).length ≤ k := List.length_take_le _ _
        have O := Lib.hid hown
        have B := Lib.hid hb
        have HS := Lib.hid hb.size
        clear hown hb hp
        go_wp2_with (first
          | (go_at_call 62; refine (C.out _).mono ?_; rintro e w1 ⟨rfl, hb1⟩; have hq0 := boxed hb1 (j := 0) rfl; have hq1 := boxed hb1 (j := 1) rfl; have B1 := Lib.hid (below_box hb1); clear hb1)
          | (at_builtin; refine wpList_append_own _ rfl (.tmp 14) (.tmp 17) _ rfl w.heap.size 3 i0 _ 1 8 Try.underlying25 hi hz0 hz1 hz2 rfl (by decide) _ _ _ rfl ((own_below O.out B1.out).alloc _) ⟨w1.heap.size, 0, none⟩ 1 1 [.int .i64 p.2] rfl rfl one_cell (by simp [Value.oneCell']) (by unfold maxLen; omega) (by omega) (by have := HS.out; have := B1.out.size; simp; omega) ?_; intro v' w2 hown2 hg2 _))
        have R := refs_step (own_below O.out B1.out) (B.out.trans (B1.out.mono HS.out)) hown2 hg2 E.out
        clear hown2 hg2
        go_wp2_with fail
        go_roundw
        case rel => exact ⟨k + 1, by omega, by go_num, R.1, R.2⟩
        case measure => simp [intOf]; omega
      | false =>
        have C := Lib.hid (Ref_any p.1 p.2)
        rw [hr] at C
        have E := Lib.hid (refsL_snoc_no hp hr)
        have O := Lib.hid hown
        have B := Lib.hid hb
        clear hown hb hp
        go_wp2_with (go_at_call 62; refine (C.out _).mono ?_; rintro e w1 ⟨rfl, hb1⟩; have B1 := Lib.hid (below_box hb1); clear hb1)
        go_roundw
        case rel => exact ⟨k + 1, by omega, by go_num, by rw [E.out]; exact own_below O.out B1.out, B.out.trans (B1.out.mono B.out.size)⟩
        case measure => simp [intOf]; omega
    · have O := Lib.hid hown
      have B := Lib.hid hb
      clear hown hb
      go_wp2_with fail
      go_ret
      refine ⟨_, rfl, ?_, B.out⟩
      have := O.out
      rw [List.take_of_length_le (by omega)] at this
      exact this
theorem Refs_none (c : Nat) (w : World) :
    Calls Try.prog 20 #[.slice none 0 c] w (GivesInts [] w) := by
  go_enter Try.func20, Try.ntmps20
  go_wp2_with fail
  go_loopw [3, 8] (fun v i wr => i = .int .i64 0 ∧ v = .slice none 0 0 ∧ wr = w) (fun _ i _ => 0)
  case atStart => exact ⟨rfl, rfl, rfl⟩
  case round =>
    obtain ⟨rfl, rfl, hq⟩ := hrel
    obtain rfl := hq.symm
    go_wp2_with fail
    go_ret
    exact ⟨_, rfl, World.ownsRow_nil _ _ _ _, Below.refl _ _⟩
/-- val.Refs. -/
theorem Refs_any (A : Option Addr) (c : Nat) (l : List (Int × Int)) (w : World) (hl : l.length * 16 ≤ 140737488355328) (h : PairsAt w A l) :
    Calls Try.prog 20 #[.slice A l.length c] w (GivesInts (refsL l) w) := by
  match A, h with
  | some ad, h => exact Refs_some ad c l w hl h
  | none, h =>
    match l, h with
    | [], h => exact Refs_none c w
    | x :: r, h => obtain ⟨ad, e, _⟩ := h 0 x rfl; cases e
set_option maxHeartbeats 1000000 in
theorem RRefs_some (ad : Addr) (c : Nat) (l : List (Int × Int)) (w : World) (hl : l.length * 16 ≤ 140737488355328) (h : PairsAt w (some ad) l) :
    Calls Try.prog 39 #[.slice (some ad) l.length c] w (GivesInts (refsL l) w) := by
  obtain ⟨i0, hi, hz0, hz1, hz2⟩ := info_parts int_info
  have H := Lib.hid h
  clear h
  go_enter Try.func39, Try.ntmps39
  go_wp2_with fail
  go_loopw [3, 4] (fun v i wr => ∃ k : Nat, k ≤ l.length ∧ i = .int .i64 k ∧ wr.ownsRow w.heap.size 3 1 v (refsL (l.take k)).length ((refsL (l.take k)).map (Value.int .i64)) ∧ Below w.heap.size w wr) (fun _ i _ => l.length - (intOf i).toNat)
  case atStart => exact ⟨0, Nat.zero_le _, rfl, World.ownsRow_nil _ _ _ _, Below.refl _ _⟩
  case round =>
    obtain ⟨k, hk, rfl, hown, hb⟩ := hrel
    by_cases hlt : k < l.length
    · obtain ⟨p, hp⟩ : ∃ p, l[k]? = some p := ⟨_, List.getElem?_eq_getElem hlt⟩
      obtain ⟨ad', e, hbl, hc0, hc1⟩ := H.out k p hp
      obtain rfl : ad = ad' := by injection e
      have d0 := (hb.cell (by rw [Go.ChangeShapes.block_add]; exact hbl)).trans hc0
      have d1 := (hb.cell (by rw [Go.ChangeShapes.block_add, Go.ChangeShapes.block_add]; exact hbl)).trans hc1
      rw [add_one] at d1
      clear hc0 hc1
      cases hr : refB p.1 p.2 with
      | true =>
        have C := Lib.hid (RRef_any p.1 p.2)
        rw [hr] at C
        have E := Lib.hid (refsL_snoc_yes hp hr)
        have hlen := refsL_len (l.take k)
        have hlen2 : (l.take k).length ≤ k := List.length_take_le _ _
        have O := Lib.hid hown
        have B := Lib.hid hb
        have HS := Lib.hid hb.size
        clear hown hb hp
        go_wp2_with (first
          | (go_at_call 89; refine (C.out _).mono ?_; rintro e w1 ⟨rfl, hb1⟩; have f1 := (hb1.cell (by rw [Go.ChangeShapes.block_add]; exact Nat.lt_of_lt_of_le hbl HS.out)).trans d0; have f2 := (hb1.cell (by exact Nat.lt_of_lt_of_le (by rw [Go.ChangeShapes.block_add]; exact hbl) HS.out)).trans d1; have B1 := Lib.hid hb1; clear hb1)
          | (at_builtin; refine wpList_append_own _ rfl (.tmp 16) (.tmp 22) _ rfl w.heap.size 3 i0 _ 1 8 Try.underlying25 hi hz0 hz1 hz2 rfl (by decide) _ _ _ rfl ((own_below O.out B1.out).alloc _) ⟨w1.heap.size, 0, none⟩ 1 1 [.int .i64 p.2] rfl rfl one_cell (by simp [Value.oneCell']) (by unfold maxLen; omega) (by omega) (by have := HS.out; have := B1.out.size; simp; omega) ?_; intro v' w2 hown2 hg2 _))
        have R := refs_step (own_below O.out B1.out) (B.out.trans (B1.out.mono HS.out)) hown2 hg2 E.out
        clear hown2 hg2
        go_wp2_with fail
        go_roundw
        case rel => exact ⟨k + 1, by omega, by go_num, R.1, R.2⟩
        case measure => simp [intOf]; omega
      | false =>
        have C := Lib.hid (RRef_any p.1 p.2)
        rw [hr] at C
        have E := Lib.hid (refsL_snoc_no hp hr)
        have O := Lib.hid hown
        have B := Lib.hid hb
        clear hown hb hp
        go_wp2_with (go_at_call 89; refine (C.out _).mono ?_; rintro e w1 ⟨rfl, hb1⟩; have B1 := Lib.hid hb1; clear hb1)
        go_roundw
        case rel => exact ⟨k + 1, by omega, by go_num, by rw [E.out]; exact own_below O.out B1.out, B.out.trans (B1.out.mono B.out.size)⟩
        case measure => simp [intOf]; omega
    · have O := Lib.hid hown
      have B := Lib.hid hb
      clear hown hb
      go_wp2_with fail
      go_ret
      refine ⟨_, rfl, ?_, B.out⟩
      have := O.out
      rw [List.take_of_length_le (by omega)] at this
      exact this
theorem RRefs_none (c : Nat) (w : World) :
    Calls Try.prog 39 #[.slice none 0 c] w (GivesInts [] w) := by
  go_enter Try.func39, Try.ntmps39
  go_wp2_with fail
  go_loopw [3, 4] (fun v i wr => i = .int .i64 0 ∧ v = .slice none 0 0 ∧ wr = w) (fun _ i _ => 0)
  case atStart => exact ⟨rfl, rfl, rfl⟩
  case round =>
    obtain ⟨rfl, rfl, hq⟩ := hrel
    obtain rfl := hq.symm
    go_wp2_with fail
    go_ret
    exact ⟨_, rfl, World.ownsRow_nil _ _ _ _, Below.refl _ _⟩
/-- val.Refs. -/
theorem RRefs_any (A : Option Addr) (c : Nat) (l : List (Int × Int)) (w : World) (hl : l.length * 16 ≤ 140737488355328) (h : PairsAt w A l) :
    Calls Try.prog 39 #[.slice A l.length c] w (GivesInts (refsL l) w) := by
  match A, h with
  | some ad, h => exact RRefs_some ad c l w hl h
  | none, h =>
    match l, h with
    | [], h => exact RRefs_none c w
    | x :: r, h => obtain ⟨ad, e, _⟩ := h 0 x rfl; cases e
end Go.Proofs.Ytjlobjgemhapaaa
namespace Go.Proofs.Ytjlobjgemhapaaa
set_option maxRecDepth 20000
open Go.RowKit

def IntsAt (w : World) (A : Option Addr) (xs : List Int) : Prop :=
  ∀ (i : Nat) x, xs[i]? = some x → ∃ ad, A = some ad ∧ ad.block < w.heap.size ∧ w.cell? (ad.add i) = some (.int .i64 x)
theorem IntsAt.below {w w' : World} {A : Option Addr} {xs : List Int} (h : IntsAt w A xs) (hb : Below w.heap.size w w') : IntsAt w' A xs := by
  intro i x hx
  obtain ⟨ad, e, hl, hc⟩ := h i x hx
  exact ⟨ad, e, Nat.lt_of_lt_of_le hl hb.size, (hb.cell (by rw [Go.ChangeShapes.block_add]; exact hl)).trans hc⟩
theorem ints_of_own {w : World} {base : Nat} {v : Value} {xs : List Int} (h : w.ownsRow base 3 1 v xs.length (xs.map (Value.int .i64))) : ∃ A c, v = .slice A xs.length c ∧ IntsAt w A xs := by
  have h0 := h
  rcases h.2 with ⟨rfl, h1⟩ | ⟨g, cap, cur, rfl, _, hg, _⟩
  · have : xs = [] := List.length_eq_zero_iff.1 h1
    subst this
    exact ⟨none, 0, rfl, fun i x hx => by simp at hx⟩
  · refine ⟨some ⟨g, 0, none⟩, cap, rfl, fun i x hx => ⟨_, rfl, (Array.getElem?_eq_some_iff.1 hg).1, ?_⟩⟩
    exact h0.cells rfl i _ (by simp [hx])

set_option maxHeartbeats 1000000 in
theorem Ints_some (a b : Addr) (c d : Nat) (xs : List Int) (w : World) (hl : xs.length ≤ 140737488355328) (ha : IntsAt w (some a) xs) (hb : IntsAt w (some b) xs) :
    Calls Try.prog 11 #[.slice (some a) xs.length c, .slice (some b) xs.length d] w fun e w' => e = .returned (.bool true) ∧ Below w.heap.size w w' := by
  have HA := Lib.hid ha
  have HB := Lib.hid hb
  clear ha hb
  go_enter Try.func11, Try.ntmps11
  go_wp2_with fail
  go_loopw [5] (fun i wr => ∃ k : Nat, k ≤ xs.length ∧ i = .int .i64 k ∧ ∃ n, wr = w.drewN n) (fun i _ => xs.length - (intOf i).toNat)
  case atStart => exact ⟨0, Nat.zero_le _, rfl, 0, rfl⟩
  case round =>
    obtain ⟨k, hk, rfl, n, rfl⟩ := hrel
    by_cases hlt : k < xs.length
    · obtain ⟨x, hx⟩ : ∃ x, xs[k]? = some x := ⟨_, List.getElem?_eq_getElem hlt⟩
      obtain ⟨a', e, _, h1⟩ := HA.out k x hx
      obtain rfl : a = a' := by injection e
      obtain ⟨b', e, _, h2⟩ := HB.out k x hx
      obtain rfl : b = b' := by injection e
      clear hx
      go_wp2_with fail
      go_quiet (fail)
      go_wp2_with fail
      go_roundw
      case rel => exact ⟨k + 1, by omega, by go_num, _, rfl⟩
      case measure => simp [intOf]; omega
    · go_wp2_with fail
      go_ret
      exact ⟨rfl, below_drewN (Below.refl _ _) _⟩
theorem Ints_none (A B : Option Addr) (c d : Nat) (w : World) :
    Calls Try.prog 11 #[.slice A 0 c, .slice B 0 d] w fun e w' => e = .returned (.bool true) ∧ Below w.heap.size w w' := by
  go_enter Try.func11, Try.ntmps11
  go_wp2_with fail
  go_loopw [5] (fun i wr => i = .int .i64 0 ∧ wr = w) (fun i _ => 0)
  case atStart => exact ⟨rfl, rfl⟩
  case round =>
    obtain ⟨rfl, hq⟩ := hrel
    obtain rfl := hq.symm
    go_wp2_with fail
    go_ret
    exact ⟨rfl, Below.refl _ _⟩
/-- tallowref02.Ints, at two lists that are alike. -/
theorem Ints_any (A B : Option Addr) (c d : Nat) (xs : List Int) (w : World) (hl : xs.length ≤ 140737488355328) (ha : IntsAt w A xs) (hb : IntsAt w B xs) :
    Calls Try.prog 11 #[.slice A xs.length c, .slice B xs.length d] w fun e w' => e = .returned (.bool true) ∧ Below w.heap.size w w' := by
  match xs, ha, hb with
  | [], ha, hb => exact Ints_none A B c d w
  | x :: r, ha, hb =>
    obtain ⟨a, rfl, _⟩ := ha 0 x rfl
    obtain ⟨b, rfl, _⟩ := hb 0 x rfl
    exact Ints_some a b c d _ w hl ha hb
end Go.Proofs.Ytjlobjgemhapaaa
