/- made: an expression with all its parentheses, of choices. -/
import Derived.Test.YtebkdegcifkigaaGreatDoorParWholeP
import Derived.BigQuiet
import Derived.OwnWalk
namespace Go.Proofs.YtebkdegcifkigaaGreatDoor.P5
set_option maxRecDepth 20000
open Go.RowKit Go.Maps

def nameF (k : Nat) : UInt8 := if k % 3 = 0 then 97 else if k % 3 = 1 then 98 else 99
def madeF : Nat → List Nat → Fm × List Nat
  | 0, _ => (.nm 122, [])
  | _ + 1, [] => (.nm 122, [])
  | n + 1, k :: r => if r.length < 3 ∨ k % 8 < 2 then (.nm (nameF k), r) else if k % 8 = 2 then (.un (k / 8) (madeF n r).1, (madeF n r).2) else (.bin (k / 8) (madeF n r).1 (madeF n (madeF n r).2).1, (madeF n (madeF n r).2).2)
theorem made_rest : ∀ n l, (madeF n l).2.length ≤ l.length
  | 0, l => Nat.zero_le _
  | n + 1, [] => Nat.le_refl _
  | n + 1, k :: r => by
    have h1 := made_rest n r
    have h2 := made_rest n (madeF n r).2
    unfold madeF
    split
    · simp
    · split
      · simp only [List.length_cons]; omega
      · simp only [List.length_cons]; omega
theorem made_fine : ∀ n l, okF (madeF n l).1
  | 0, l => .inr (.inr (.inr rfl))
  | n + 1, [] => .inr (.inr (.inr rfl))
  | n + 1, k :: r => by
    have h1 := made_fine n r
    have h2 := made_fine n (madeF n r).2
    unfold madeF
    split
    · show okF (.nm (nameF k))
      unfold okF nameF
      split
      · exact .inl rfl
      · split
        · exact .inr (.inl rfl)
        · exact .inr (.inr (.inl rfl))
    · split
      · exact h1
      · exact ⟨h1, h2⟩
theorem opB_short (o : Nat) : (opB o).length ≤ 3 := op_short _
theorem unB_short (u : Nat) : (unB u).length ≤ 3 := un_short _
theorem made_len : ∀ n l, (txF (madeF n l).1).length + 8 * (madeF n l).2.length ≤ 8 * l.length + 1
  | 0, l => by simp only [madeF, txF, List.length_cons, List.length_nil]; omega
  | n + 1, [] => by simp only [madeF, txF, List.length_cons, List.length_nil]; omega
  | n + 1, k :: r => by
    have h1 := made_len n r
    have h2 := made_len n (madeF n r).2
    have h3 := opB_short (k / 8)
    have h4 := unB_short (k / 8)
    unfold madeF
    split
    · simp only [txF, List.length_cons, List.length_nil]; omega
    · split
      · simp only [txF, List.length_append, List.length_cons, List.length_nil]; omega
      · simp only [txF, List.length_append, List.length_cons, List.length_nil]; omega
/-- A slice of bytes. -/
def BySl (w : World) (v : Value) (l : List Nat) : Prop :=
  ∃ A c, v = .slice A l.length c ∧ l.length ≤ c ∧ c ≤ 9223372036854775807 ∧ (l ≠ [] → ∃ a, A = some a ∧ a.block < w.heap.size ∧ ∀ (i x : Nat), l[i]? = some x → w.cell? (a.add i) = some (.int .u8 x) ∧ x ≤ 255)
theorem BySl.below {w w' : World} {v : Value} {l : List Nat} (h : BySl w v l) (hb : Below w.heap.size w w') : BySl w' v l := by
  obtain ⟨A, c, e, h1, h2, h3⟩ := h
  refine ⟨A, c, e, h1, h2, fun hl => ?_⟩
  obtain ⟨a, e2, h4, h5⟩ := h3 hl
  exact ⟨a, e2, Nat.lt_of_lt_of_le h4 hb.size, fun i x hx => ⟨(hb.cell (by rw [Go.ChangeShapes.block_add]; exact h4)).trans (h5 i x hx).1, (h5 i x hx).2⟩⟩
theorem add_add (a : Addr) (i : Nat) : (⟨a.block, a.off + 1, none⟩ : Addr).add i = a.add (i + 1) := by
  unfold Addr.add
  rw [if_neg (by omega : ¬ i + 1 = 0)]
  by_cases h : i = 0
  · subst h; rw [if_pos rfl]
  · rw [if_neg h]; simp only [Addr.mk.injEq, and_true, true_and]; omega
/-- What is left behind the first. -/
theorem by_tail {w : World} {a : Addr} {c k : Nat} {r : List Nat} (hc : r.length + 1 ≤ c) (hm : c ≤ 9223372036854775807) (ha : a.block < w.heap.size) (h : ∀ (i x : Nat), (k :: r)[i]? = some x → w.cell? (a.add i) = some (.int .u8 x) ∧ x ≤ 255) (b : Option Addr) (hb : ¬ c = 1 → b = some ⟨a.block, a.off + 1, none⟩) (n c' : Nat) (hn : n = r.length) (hc' : c' = c - 1) : BySl w (.slice b n c') r := by
  subst hn; subst hc'
  refine ⟨b, c - 1, rfl, by omega, by omega, fun hr => ?_⟩
  have : 0 < r.length := List.length_pos_iff.2 hr
  refine ⟨_, hb (by omega), ha, fun i x hx => ?_⟩
  rw [add_add]
  exact h (i + 1) x (by rw [List.getElem?_cons_succ]; exact hx)
theorem name_cell (w : World) (T : TypeId) (k : Nat) : (w.alloc (.cells #[.string ⟨#[97]⟩, .string ⟨#[98]⟩, .string ⟨#[99]⟩] T)).cell? ⟨w.heap.size, k % 3, none⟩ = some (sV [nameF k]) := by
  have h : k % 3 = 0 ∨ k % 3 = 1 ∨ k % 3 = 2 := by omega
  unfold nameF
  rcases h with h | h | h <;> rw [h] <;> simp [go_sem]
def mOps : Array Value := #[.string ⟨#[111, 114]⟩, .string ⟨#[97, 110, 100]⟩, .string ⟨#[60]⟩, .string ⟨#[60, 61]⟩, .string ⟨#[62]⟩, .string ⟨#[62, 61]⟩, .string ⟨#[61, 61]⟩, .string ⟨#[126, 61]⟩, .string ⟨#[124]⟩, .string ⟨#[126]⟩, .string ⟨#[38]⟩, .string ⟨#[60, 60]⟩, .string ⟨#[62, 62]⟩, .string ⟨#[46, 46]⟩, .string ⟨#[43]⟩, .string ⟨#[45]⟩, .string ⟨#[42]⟩, .string ⟨#[47, 47]⟩, .string ⟨#[37]⟩]
def mUns : Array Value := #[.string ⟨#[110, 111, 116]⟩, .string ⟨#[45]⟩, .string ⟨#[35]⟩, .string ⟨#[126]⟩]
theorem op_cell (w : World) (T : TypeId) (o : Nat) : (w.alloc (.cells mOps T)).cell? ⟨w.heap.size, o % 19, none⟩ = some (sV (opB o)) := by
  unfold opB
  have h : o % 19 < 19 := Nat.mod_lt _ (by decide)
  generalize o % 19 = i at h
  have : mOps[i]? = some (sV (opsL.getD i [])) := by
    match i, h with
    | 0, _ => rfl
    | 1, _ => rfl
    | 2, _ => rfl
    | 3, _ => rfl
    | 4, _ => rfl
    | 5, _ => rfl
    | 6, _ => rfl
    | 7, _ => rfl
    | 8, _ => rfl
    | 9, _ => rfl
    | 10, _ => rfl
    | 11, _ => rfl
    | 12, _ => rfl
    | 13, _ => rfl
    | 14, _ => rfl
    | 15, _ => rfl
    | 16, _ => rfl
    | 17, _ => rfl
    | 18, _ => rfl
    | n + 19, h => omega
  simp [go_sem]
  exact this
theorem uns_cell (w : World) (T : TypeId) (u : Nat) : (w.alloc (.cells mUns T)).cell? ⟨w.heap.size, u % 4, none⟩ = some (sV (unB u)) := by
  unfold unB
  have h : u % 4 < 4 := Nat.mod_lt _ (by decide)
  generalize u % 4 = i at h
  have : mUns[i]? = some (sV (unL.getD i [])) := by
    match i, h with
    | 0, _ => rfl
    | 1, _ => rfl
    | 2, _ => rfl
    | 3, _ => rfl
    | n + 4, h => omega
  simp [go_sem]
  exact this
theorem below_then {w a b : World} (h : Below w.heap.size w a) (k : Below a.heap.size a b) : Below w.heap.size w b := h.trans (k.mono h.size)
theorem below2 (w : World) (o p : Obj) : Below w.heap.size w ((w.alloc o).alloc p) := ((Below.refl _ _).alloc (Nat.le_refl _) _).alloc (by simp) _
theorem below3 (w : World) (o p q : Obj) : Below w.heap.size w (((w.alloc o).alloc p).alloc q) := (below2 w o p).alloc (by simp; omega) _
/-- What made hands back. -/
def Made (f : Fm) (rest : List Nat) (w : World) (e : Ending) (w' : World) : Prop := ∃ v, e = .returned (.tuple #[sV (txF f), sV (txF f), v]) ∧ BySl w' v rest ∧ Below w.heap.size w w'
set_option maxHeartbeats 8000000 in
theorem made_nil (w : World) {A : Option Addr} {c : Nat} : Calls Tryz.prog 13 #[.slice A 0 c] w (Made (.nm 122) [] w) := by
  go_enter Tryz.func13, Tryz.ntmps13
  go_wp2_with fail
  go_ret3
  exact ⟨_, rfl, ⟨none, 0, rfl, by simp, by decide, fun h => absurd rfl h⟩, ((Below.refl _ _).alloc (Nat.le_refl _) _).alloc (by simp) _⟩
set_option maxHeartbeats 8000000 in
theorem made_short (w : World) {a : Addr} {c k : Nat} {r : List Nat} (hc : r.length + 1 ≤ c) (hm : c ≤ 9223372036854775807) (ha : a.block < w.heap.size) (h : ∀ (i x : Nat), (k :: r)[i]? = some x → w.cell? (a.add i) = some (.int .u8 x) ∧ x ≤ 255) (hl : r.length ≤ 1000) (hs : r.length < 3) :
    Calls Tryz.prog 13 #[.slice (some a) (r.length + 1) c] w (Made (.nm (nameF k)) r w) := by
  have h0 : w.cell? a = some (.int .u8 k) := (h 0 k rfl).1
  have hk : k ≤ 255 := (h 0 k rfl).2
  have BT := Lib.hid (fun (w' : World) (hb : Below w.heap.size w w') => fun b hb1 n c' hn hc' => (by_tail hc hm ha h b hb1 n c' hn hc').below hb)
  clear h
  obtain ⟨n, hn⟩ : ∃ n, n = r.length := ⟨_, rfl⟩
  rw [← hn] at hc hl ⊢
  have q1 : (n : Int) + 1 < 4 := by omega
  have i3 : (k : Int) % 3 = ((k % 3 : Nat) : Int) := by omega
  have i30 : (0 : Int) ≤ ((k % 3 : Nat) : Int) := by omega
  have i31 : ((k % 3 : Nat) : Int) < 3 := by omega
  have c1 := name_cell (w.alloc (.cells #[.string ⟨#[111, 114]⟩, .string ⟨#[97, 110, 100]⟩, .string ⟨#[60]⟩, .string ⟨#[60, 61]⟩, .string ⟨#[62]⟩, .string ⟨#[62, 61]⟩, .string ⟨#[61, 61]⟩, .string ⟨#[126, 61]⟩, .string ⟨#[124]⟩, .string ⟨#[126]⟩, .string ⟨#[38]⟩, .string ⟨#[60, 60]⟩, .string ⟨#[62, 62]⟩, .string ⟨#[46, 46]⟩, .string ⟨#[43]⟩, .string ⟨#[45]⟩, .string ⟨#[42]⟩, .string ⟨#[47, 47]⟩, .string ⟨#[37]⟩] 9)) 9 k
  have ez : (w.alloc (.cells #[.string ⟨#[111, 114]⟩, .string ⟨#[97, 110, 100]⟩, .string ⟨#[60]⟩, .string ⟨#[60, 61]⟩, .string ⟨#[62]⟩, .string ⟨#[62, 61]⟩, .string ⟨#[61, 61]⟩, .string ⟨#[126, 61]⟩, .string ⟨#[124]⟩, .string ⟨#[126]⟩, .string ⟨#[38]⟩, .string ⟨#[60, 60]⟩, .string ⟨#[62, 62]⟩, .string ⟨#[46, 46]⟩, .string ⟨#[43]⟩, .string ⟨#[45]⟩, .string ⟨#[42]⟩, .string ⟨#[47, 47]⟩, .string ⟨#[37]⟩] 9)).heap.size = w.heap.size + 1 := by simp
  rw [ez] at c1
  clear ez
  generalize hk3 : k % 3 = k3 at i3 i30 i31 c1
  clear hk3
  generalize nameF k = s at c1 ⊢

  replace hn := Lib.hid hn
  go_enter Tryz.func13, Tryz.ntmps13
  go_wp2_with fail
  go_quiet (fail)
  go_wp2_with fail
  all_goals
    go_ret3
    refine ⟨_, rfl, BT.out _ (below_drewN (((Below.refl _ _).alloc (Nat.le_refl _) _).alloc (by simp) _) _) _ ?_ _ _ hn.out (by omega), below_drewN (((Below.refl _ _).alloc (Nat.le_refl _) _).alloc (by simp) _) _⟩
    first
      | exact fun _ => rfl
      | (intro hx; exact absurd (by assumption) hx)
set_option maxHeartbeats 8000000 in
theorem made_name (w : World) {a : Addr} {c k : Nat} {r : List Nat} (hc : r.length + 1 ≤ c) (hm : c ≤ 9223372036854775807) (ha : a.block < w.heap.size) (h : ∀ (i x : Nat), (k :: r)[i]? = some x → w.cell? (a.add i) = some (.int .u8 x) ∧ x ≤ 255) (hl : r.length ≤ 1000) (hs : ¬ r.length < 3) (h8 : k % 8 < 2) :
    Calls Tryz.prog 13 #[.slice (some a) (r.length + 1) c] w (Made (.nm (nameF k)) r w) := by
  have h0 : w.cell? a = some (.int .u8 k) := (h 0 k rfl).1
  have hk : k ≤ 255 := (h 0 k rfl).2
  have BT := Lib.hid (fun (w' : World) (hb : Below w.heap.size w w') => fun b hb1 n c' hn hc' => (by_tail hc hm ha h b hb1 n c' hn hc').below hb)
  clear h
  obtain ⟨n, hn⟩ : ∃ n, n = r.length := ⟨_, rfl⟩
  rw [← hn] at hc hl ⊢
  have q1 : ¬ (n : Int) + 1 < 4 := by omega
  have q2 : (k : Int) % 8 < 2 := by omega
  have i3 : (k : Int) % 3 = ((k % 3 : Nat) : Int) := by omega
  have i30 : (0 : Int) ≤ ((k % 3 : Nat) : Int) := by omega
  have i31 : ((k % 3 : Nat) : Int) < 3 := by omega
  have c1 := name_cell (w.alloc (.cells #[.string ⟨#[111, 114]⟩, .string ⟨#[97, 110, 100]⟩, .string ⟨#[60]⟩, .string ⟨#[60, 61]⟩, .string ⟨#[62]⟩, .string ⟨#[62, 61]⟩, .string ⟨#[61, 61]⟩, .string ⟨#[126, 61]⟩, .string ⟨#[124]⟩, .string ⟨#[126]⟩, .string ⟨#[38]⟩, .string ⟨#[60, 60]⟩, .string ⟨#[62, 62]⟩, .string ⟨#[46, 46]⟩, .string ⟨#[43]⟩, .string ⟨#[45]⟩, .string ⟨#[42]⟩, .string ⟨#[47, 47]⟩, .string ⟨#[37]⟩] 9)) 9 k
  have ez : (w.alloc (.cells #[.string ⟨#[111, 114]⟩, .string ⟨#[97, 110, 100]⟩, .string ⟨#[60]⟩, .string ⟨#[60, 61]⟩, .string ⟨#[62]⟩, .string ⟨#[62, 61]⟩, .string ⟨#[61, 61]⟩, .string ⟨#[126, 61]⟩, .string ⟨#[124]⟩, .string ⟨#[126]⟩, .string ⟨#[38]⟩, .string ⟨#[60, 60]⟩, .string ⟨#[62, 62]⟩, .string ⟨#[46, 46]⟩, .string ⟨#[43]⟩, .string ⟨#[45]⟩, .string ⟨#[42]⟩, .string ⟨#[47, 47]⟩, .string ⟨#[37]⟩] 9)).heap.size = w.heap.size + 1 := by simp
  rw [ez] at c1
  clear ez
  generalize hk3 : k % 3 = k3 at i3 i30 i31 c1
  clear hk3
  generalize nameF k = s at c1 ⊢

  replace hn := Lib.hid hn
  go_enter Tryz.func13, Tryz.ntmps13
  go_wp2_with fail
  go_quiet (fail)
  go_wp2_with fail
  all_goals
    go_ret3
    refine ⟨_, rfl, BT.out _ (below_drewN (((Below.refl _ _).alloc (Nat.le_refl _) _).alloc (by simp) _) _) _ ?_ _ _ hn.out (by omega), below_drewN (((Below.refl _ _).alloc (Nat.le_refl _) _).alloc (by simp) _) _⟩
    first
      | exact fun _ => rfl
      | (intro hx; exact absurd (by assumption) hx)
set_option maxHeartbeats 8000000 in
theorem made_un (w : World) {a : Addr} {c k : Nat} {r : List Nat} (hc : r.length + 1 ≤ c) (hm : c ≤ 9223372036854775807) (ha : a.block < w.heap.size) (h : ∀ (i x : Nat), (k :: r)[i]? = some x → w.cell? (a.add i) = some (.int .u8 x) ∧ x ≤ 255) (hl : r.length ≤ 1000) (hs : ¬ r.length < 3) (h8 : k % 8 = 2) (f : Fm) (rest : List Nat) (hf : (txF f).length ≤ 10000) (IH : ∀ w v, BySl w v r → Calls Tryz.prog 13 #[v] w (fun e w' => ∃ v', e = .returned (.tuple #[sV (txF f), sV (txF f), v']) ∧ BySl w' v' rest ∧ Below w.heap.size w w')) :
    Calls Tryz.prog 13 #[.slice (some a) (r.length + 1) c] w (Made (.un (k / 8) f) rest w) := by
  have h0 : w.cell? a = some (.int .u8 k) := (h 0 k rfl).1
  have hk : k ≤ 255 := (h 0 k rfl).2
  have BT := Lib.hid (fun (w' : World) (hb : Below w.heap.size w w') => fun b hb1 n c' hn hc' => (by_tail hc hm ha h b hb1 n c' hn hc').below hb)
  clear h
  obtain ⟨n, hn⟩ : ∃ n, n = r.length := ⟨_, rfl⟩
  rw [← hn] at hc hl ⊢
  have q1 : ¬ (n : Int) + 1 < 4 := by omega
  have hc1 : ¬ c = 1 := by omega
  have q2 : ¬ (k : Int) % 8 < 2 := by omega
  have q3 : ((k : Int) % 8 == 2) = true := by simp; omega
  have iu : (k : Int) / 8 % 4 = ((k / 8 % 4 : Nat) : Int) := by omega
  have iu0 : (0 : Int) ≤ ((k / 8 % 4 : Nat) : Int) := by omega
  have iu1 : ((k / 8 % 4 : Nat) : Int) < 4 := by omega
  have c1 := uns_cell ((w.alloc (.cells #[.string ⟨#[111, 114]⟩, .string ⟨#[97, 110, 100]⟩, .string ⟨#[60]⟩, .string ⟨#[60, 61]⟩, .string ⟨#[62]⟩, .string ⟨#[62, 61]⟩, .string ⟨#[61, 61]⟩, .string ⟨#[126, 61]⟩, .string ⟨#[124]⟩, .string ⟨#[126]⟩, .string ⟨#[38]⟩, .string ⟨#[60, 60]⟩, .string ⟨#[62, 62]⟩, .string ⟨#[46, 46]⟩, .string ⟨#[43]⟩, .string ⟨#[45]⟩, .string ⟨#[42]⟩, .string ⟨#[47, 47]⟩, .string ⟨#[37]⟩] 9)).alloc (.cells #[.string ⟨#[97]⟩, .string ⟨#[98]⟩, .string ⟨#[99]⟩] 9)) 9 (k / 8)
  have ez : ((w.alloc (.cells #[.string ⟨#[111, 114]⟩, .string ⟨#[97, 110, 100]⟩, .string ⟨#[60]⟩, .string ⟨#[60, 61]⟩, .string ⟨#[62]⟩, .string ⟨#[62, 61]⟩, .string ⟨#[61, 61]⟩, .string ⟨#[126, 61]⟩, .string ⟨#[124]⟩, .string ⟨#[126]⟩, .string ⟨#[38]⟩, .string ⟨#[60, 60]⟩, .string ⟨#[62, 62]⟩, .string ⟨#[46, 46]⟩, .string ⟨#[43]⟩, .string ⟨#[45]⟩, .string ⟨#[42]⟩, .string ⟨#[47, 47]⟩, .string ⟨#[37]⟩] 9)).alloc (.cells #[.string ⟨#[97]⟩, .string ⟨#[98]⟩, .string ⟨#[99]⟩] 9)).heap.size = w.heap.size + 2 := by simp
  rw [ez] at c1
  unfold mUns at c1
  clear ez
  have hu3 := unB_short (k / 8)
  generalize hku : k / 8 % 4 = ku at iu iu0 iu1 c1
  clear hku
  show Calls _ _ _ _ (Made (.un (k / 8) f) rest w)
  have FIN : ∀ (v : Value) (w' : World), BySl w' v rest → Below w.heap.size w w' → Made (.un (k / 8) f) rest w (.returned (.tuple #[.string (⟨#[40]⟩ ++ ⟨(unB (k / 8)).toArray⟩ ++ ⟨#[32]⟩ ++ ⟨(txF f).toArray⟩ ++ ⟨#[41]⟩), .string (⟨#[40]⟩ ++ ⟨(unB (k / 8)).toArray⟩ ++ ⟨#[32]⟩ ++ ⟨(txF f).toArray⟩ ++ ⟨#[41]⟩), v])) w' := fun v w' hv hb => ⟨v, by
    have e : ((⟨#[40]⟩ ++ ⟨(unB (k / 8)).toArray⟩ ++ ⟨#[32]⟩ ++ ⟨(txF f).toArray⟩ ++ ⟨#[41]⟩ : ByteArray)) = ⟨(txF (.un (k / 8) f)).toArray⟩ := ByteArray.ext (by simp [txF])
    rw [e], hv, hb⟩
  replace FIN := Lib.hid FIN
  generalize unB (k / 8) = s at c1 hu3 FIN ⊢
  generalize k / 8 = k8 at FIN ⊢
  replace IH := Lib.hid IH
  generalize txF f = t at IH FIN hf
  have n1 : ¬ 9223372036854775807 < 1 + s.length := by omega
  have n2 : ¬ 9223372036854775807 < 1 + s.length + 1 := by omega
  have n3 : ¬ 9223372036854775807 < 1 + s.length + 1 + t.length := by omega
  have n4 : ¬ 9223372036854775807 < 1 + s.length + 1 + t.length + 1 := by omega

  replace hn := Lib.hid hn
  go_enter Tryz.func13, Tryz.ntmps13
  go_wp2_with (go_at_call 13; (refine (IH.out _ _ (BT.out _ (below3 _ _ _ _) _ (fun _ => rfl) _ _ hn.out rfl)).mono ?_); rintro e w1 ⟨v, rfl, hv, hb⟩)
  go_ret3
  exact FIN.out v w1 hv (below_then (below3 _ _ _ _) hb)
set_option maxHeartbeats 8000000 in
theorem made_bin (w : World) {a : Addr} {c k : Nat} {r : List Nat} (hc : r.length + 1 ≤ c) (hm : c ≤ 9223372036854775807) (ha : a.block < w.heap.size) (h : ∀ (i x : Nat), (k :: r)[i]? = some x → w.cell? (a.add i) = some (.int .u8 x) ∧ x ≤ 255) (hl : r.length ≤ 1000) (hs : ¬ r.length < 3) (h8 : ¬ k % 8 < 2) (h9 : ¬ k % 8 = 2) (f g : Fm) (mid rest : List Nat) (hf : (txF f).length ≤ 10000) (hg : (txF g).length ≤ 10000) (IH : ∀ w v, BySl w v r → Calls Tryz.prog 13 #[v] w (fun e w' => ∃ v', e = .returned (.tuple #[sV (txF f), sV (txF f), v']) ∧ BySl w' v' mid ∧ Below w.heap.size w w')) (IG : ∀ w v, BySl w v mid → Calls Tryz.prog 13 #[v] w (fun e w' => ∃ v', e = .returned (.tuple #[sV (txF g), sV (txF g), v']) ∧ BySl w' v' rest ∧ Below w.heap.size w w')) :
    Calls Tryz.prog 13 #[.slice (some a) (r.length + 1) c] w (Made (.bin (k / 8) f g) rest w) := by
  have h0 : w.cell? a = some (.int .u8 k) := (h 0 k rfl).1
  have hk : k ≤ 255 := (h 0 k rfl).2
  have BT := Lib.hid (fun (w' : World) (hb : Below w.heap.size w w') => fun b hb1 n c' hn hc' => (by_tail hc hm ha h b hb1 n c' hn hc').below hb)
  clear h
  obtain ⟨n, hn⟩ : ∃ n, n = r.length := ⟨_, rfl⟩
  rw [← hn] at hc hl ⊢
  have q1 : ¬ (n : Int) + 1 < 4 := by omega
  have hc1 : ¬ c = 1 := by omega
  have q2 : ¬ (k : Int) % 8 < 2 := by omega
  have q3 : ((k : Int) % 8 == 2) = false := by simp; omega
  have io : (k : Int) / 8 % 19 = ((k / 8 % 19 : Nat) : Int) := by omega
  have io0 : (0 : Int) ≤ ((k / 8 % 19 : Nat) : Int) := by omega
  have io1 : ((k / 8 % 19 : Nat) : Int) < 19 := by omega
  have c1 := op_cell w 9 (k / 8)
  unfold mOps at c1
  have ho3 := opB_short (k / 8)
  replace c1 := (World.cell?_alloc_lt (w.alloc (.cells #[.string ⟨#[111, 114]⟩, .string ⟨#[97, 110, 100]⟩, .string ⟨#[60]⟩, .string ⟨#[60, 61]⟩, .string ⟨#[62]⟩, .string ⟨#[62, 61]⟩, .string ⟨#[61, 61]⟩, .string ⟨#[126, 61]⟩, .string ⟨#[124]⟩, .string ⟨#[126]⟩, .string ⟨#[38]⟩, .string ⟨#[60, 60]⟩, .string ⟨#[62, 62]⟩, .string ⟨#[46, 46]⟩, .string ⟨#[43]⟩, .string ⟨#[45]⟩, .string ⟨#[42]⟩, .string ⟨#[47, 47]⟩, .string ⟨#[37]⟩] 9)) (.cells #[.string ⟨#[97]⟩, .string ⟨#[98]⟩, .string ⟨#[99]⟩] 9) ⟨w.heap.size, k / 8 % 19, none⟩ (by simp)).trans c1
  generalize hko : k / 8 % 19 = ko at io io0 io1 c1
  clear hko
  show Calls _ _ _ _ (Made (.bin (k / 8) f g) rest w)
  have FIN : ∀ (v : Value) (w' : World), BySl w' v rest → Below w.heap.size w w' → Made (.bin (k / 8) f g) rest w (.returned (.tuple #[.string (⟨#[40]⟩ ++ ⟨(txF f).toArray⟩ ++ ⟨#[32]⟩ ++ ⟨(opB (k / 8)).toArray⟩ ++ ⟨#[32]⟩ ++ ⟨(txF g).toArray⟩ ++ ⟨#[41]⟩), .string (⟨#[40]⟩ ++ ⟨(txF f).toArray⟩ ++ ⟨#[32]⟩ ++ ⟨(opB (k / 8)).toArray⟩ ++ ⟨#[32]⟩ ++ ⟨(txF g).toArray⟩ ++ ⟨#[41]⟩), v])) w' := fun v w' hv hb => ⟨v, by
    have e : ((⟨#[40]⟩ ++ ⟨(txF f).toArray⟩ ++ ⟨#[32]⟩ ++ ⟨(opB (k / 8)).toArray⟩ ++ ⟨#[32]⟩ ++ ⟨(txF g).toArray⟩ ++ ⟨#[41]⟩ : ByteArray)) = ⟨(txF (.bin (k / 8) f g)).toArray⟩ := ByteArray.ext (by simp [txF])
    rw [e], hv, hb⟩
  replace FIN := Lib.hid FIN
  generalize opB (k / 8) = s at c1 ho3 FIN ⊢
  generalize k / 8 = k8 at FIN ⊢
  replace IH := Lib.hid IH
  replace IG := Lib.hid IG
  generalize txF f = t at IH FIN hf
  generalize txF g = u at IG FIN hg
  have n1 : ¬ 9223372036854775807 < 1 + t.length := by omega
  have n2 : ¬ 9223372036854775807 < 1 + t.length + 1 := by omega
  have n3 : ¬ 9223372036854775807 < 1 + t.length + 1 + s.length := by omega
  have n4 : ¬ 9223372036854775807 < 1 + t.length + 1 + s.length + 1 := by omega
  have n5 : ¬ 9223372036854775807 < 1 + t.length + 1 + s.length + 1 + u.length := by omega
  have n6 : ¬ 9223372036854775807 < 1 + t.length + 1 + s.length + 1 + u.length + 1 := by omega

  replace hn := Lib.hid hn
  go_enter Tryz.func13, Tryz.ntmps13
  go_wp2_with (first
    | (go_at_call_of 13 a.block; (refine (IH.out _ _ (BT.out _ (below2 _ _ _) _ (fun _ => rfl) _ _ hn.out rfl)).mono ?_); rintro e w1 ⟨v1, rfl, hv1, hb1⟩; have HV := Lib.hid hv1; have B := Lib.hid (below_then (below2 _ _ _) hb1); clear hv1 hb1)
    | (go_at_call_of 13 v1; (with_reducible refine (IG.out _ _ HV.out).mono ?_); rintro e w2 ⟨v2, rfl, hv2, hb2⟩))
  go_ret3
  exact FIN.out v2 w2 hv2 (below_then B.out hb2)
/-- made, of whatever choices. -/
theorem made_any : ∀ (n : Nat) (l : List Nat), l.length ≤ n → l.length ≤ 60 → ∀ (w : World) (v : Value), BySl w v l → Calls Tryz.prog 13 #[v] w (Made (madeF n l).1 (madeF n l).2 w)
  | n, [], _, _, w, v, h => by
    obtain ⟨A, c, rfl, _⟩ := h
    have e : madeF n [] = (.nm 122, []) := by cases n <;> rfl
    rw [e]
    exact made_nil w
  | 0, k :: r, hn, _, _, _, _ => by simp at hn
  | n + 1, k :: r, hn, hl, w, v, h => by
    obtain ⟨A, c, rfl, h1, h2, h3⟩ := h
    obtain ⟨a, rfl, ha, hx⟩ := h3 (by simp)
    rw [List.length_cons] at hn hl h1
    show Calls _ _ #[.slice (some a) (r.length + 1) c] _ _
    have m1 := made_any n r (by omega) (by omega)
    have t1 := made_len n r
    by_cases hs : r.length < 3
    · rw [show madeF (n + 1) (k :: r) = (.nm (nameF k), r) from by rw [madeF, if_pos (.inl hs)]]
      exact made_short w h1 h2 ha hx (by omega) hs
    by_cases h8 : k % 8 < 2
    · rw [show madeF (n + 1) (k :: r) = (.nm (nameF k), r) from by rw [madeF, if_pos (.inr h8)]]
      exact made_name w h1 h2 ha hx (by omega) hs h8
    by_cases h9 : k % 8 = 2
    · rw [show madeF (n + 1) (k :: r) = (.un (k / 8) (madeF n r).1, (madeF n r).2) from by rw [madeF, if_neg (fun h => h.elim hs h8), if_pos h9]]
      exact made_un w h1 h2 ha hx (by omega) hs h9 _ _ (by omega) m1
    · have r1 := made_rest n r
      have m2 := made_any n (madeF n r).2 (by omega) (by omega)
      have t2 := made_len n (madeF n r).2
      rw [show madeF (n + 1) (k :: r) = (.bin (k / 8) (madeF n r).1 (madeF n (madeF n r).2).1, (madeF n (madeF n r).2).2) from by rw [madeF, if_neg (fun h => h.elim hs h8), if_neg h9]]
      exact made_bin w h1 h2 ha hx (by omega) hs h8 h9 _ _ _ _ (by omega) (by omega) m1 m2
end Go.Proofs.YtebkdegcifkigaaGreatDoor.P5
