/- tallowref12.Gone, plain: the greatest mark of those that are left, one by one. -/
import Derived.Test.YtjlobjgemhapaaaTrRefD
import Derived.Test.YtjlobjgemhapaaaStC
namespace Go.Proofs.Ytjlobjgemhapaaa
set_option maxRecDepth 20000

/-- May it be marked next? -/
def canB (g : List OB) (L M : List Int) (x : Int) : Bool := decide (x ∈ L) && (!decide (x ∈ M) && decide (0 < markG g x))
/-- The best of the numbers up to q, 0: there is none. -/
def Best (g : List OB) (L M : List Int) (q : Nat) (b : Int) : Prop := (b = 0 ∧ ∀ k : Nat, k < q → canB g L M ((k : Int) + 1) = false) ∨ (1 ≤ b ∧ b ≤ q ∧ canB g L M b = true ∧ ∀ k : Nat, k < q → canB g L M ((k : Int) + 1) = true → leM g b ((k : Int) + 1) = true)
theorem Best.start (g : List OB) (L M : List Int) : Best g L M 0 0 := .inl ⟨rfl, fun _ h => absurd h (Nat.not_lt_zero _)⟩
theorem Best.no {g : List OB} {L M : List Int} {q : Nat} {b : Int} (h : Best g L M q b) (hq : canB g L M ((q : Int) + 1) = false) : Best g L M (q + 1) b := by
  rcases h with ⟨h1, h2⟩ | ⟨h1, h2, h3, h4⟩
  · refine .inl ⟨h1, fun k hk => ?_⟩
    by_cases e : k = q
    · rw [e]; exact hq
    · exact h2 k (by omega)
  · refine .inr ⟨h1, by omega, h3, fun k hk hc => ?_⟩
    by_cases e : k = q
    · rw [e, hq] at hc; cases hc
    · exact h4 k (by omega) hc
theorem leM_self (g : List OB) (x : Int) : leM g x x = true := by unfold leM; simp
theorem Best.first {g : List OB} {L M : List Int} {q : Nat} (h : Best g L M q 0) (hq : canB g L M ((q : Int) + 1) = true) : Best g L M (q + 1) ((q : Int) + 1) := by
  refine .inr ⟨by omega, by omega, hq, fun k hk hc => ?_⟩
  rcases h with ⟨_, h2⟩ | ⟨h1, _⟩
  · by_cases e : k = q
    · rw [e]; exact leM_self g _
    · rw [h2 k (by omega)] at hc; cases hc
  · omega
theorem Best.more {g : List OB} {L M : List Int} {q : Nat} {b : Int} (h : Best g L M q b) (hb : b ≠ 0) (hq : canB g L M ((q : Int) + 1) = true) (hm : markG g b < markG g ((q : Int) + 1)) : Best g L M (q + 1) ((q : Int) + 1) := by
  refine .inr ⟨by omega, by omega, hq, fun k hk hc => ?_⟩
  rcases h with ⟨h1, _⟩ | ⟨_, _, _, h4⟩
  · exact absurd h1 hb
  · by_cases e : k = q
    · rw [e]; exact leM_self g _
    · have := h4 k (by omega) hc
      unfold leM at this ⊢
      rw [decide_eq_true_eq] at this ⊢
      omega
theorem Best.keep {g : List OB} {L M : List Int} {q : Nat} {b : Int} (h : Best g L M q b) (hb : b ≠ 0) (hm : ¬ markG g b < markG g ((q : Int) + 1)) : Best g L M (q + 1) b := by
  rcases h with ⟨h1, _⟩ | ⟨h1, h2, h3, h4⟩
  · exact absurd h1 hb
  · refine .inr ⟨h1, by omega, h3, fun k hk hc => ?_⟩
    by_cases e : k = q
    · subst e
      unfold leM
      rw [decide_eq_true_eq]
      omega
    · exact h4 k (by omega) hc
theorem Best.at_ {g : List OB} {L M : List Int} {q : Nat} {b : Int} (h : Best g L M q b) (hb : b ≠ 0) : 1 ≤ b ∧ b ≤ q := by
  rcases h with ⟨h1, _⟩ | ⟨h1, h2, _⟩
  · exact absurd h1 hb
  · exact ⟨h1, h2⟩
/-- What was marked so far: the first ones, in order. -/
structure Sofar (g : List OB) (L M : List Int) : Prop where
  nodup : M.Nodup
  sub : ∀ x ∈ M, x ∈ L ∧ 0 < markG g x
  pair : M.Pairwise fun x y => leM g x y = true
  rest : ∀ x ∈ L, 0 < markG g x → x ∉ M → ∀ m ∈ M, leM g m x = true
theorem Sofar.start (g : List OB) (L : List Int) : Sofar g L [] := ⟨List.nodup_nil, (fun x h => by cases h), List.Pairwise.nil, (fun _ _ _ _ m h => by cases h)⟩
theorem Sofar.more {g : List OB} {L M : List Int} (h : Sofar g L M) {n : Nat} (hL : ∀ x ∈ L, 1 ≤ x ∧ x ≤ n) {b : Int} (hB : Best g L M n b) (hb : b ≠ 0) : Sofar g L (M ++ [b]) := by
  rcases hB with ⟨h1, _⟩ | ⟨_, _, h3, h4⟩
  · exact absurd h1 hb
  simp only [canB, Bool.and_eq_true, Bool.not_eq_true', decide_eq_true_iff, decide_eq_false_iff_not] at h3
  obtain ⟨c1, c2, c3⟩ := h3
  refine ⟨?_, fun x hx => ?_, ?_, fun x hx hm hn m hmm => ?_⟩
  · rw [List.nodup_append]
    refine ⟨h.nodup, by simp, fun a ha y hy => ?_⟩
    simp at hy
    subst hy
    rintro rfl
    exact c2 ha
  · rcases List.mem_append.1 hx with hx | hx
    · exact h.sub x hx
    · simp at hx; subst hx; exact ⟨c1, c3⟩
  · rw [List.pairwise_append]
    refine ⟨h.pair, by simp, fun a ha y hy => ?_⟩
    simp at hy
    subst hy
    exact h.rest _ c1 c3 c2 a ha
  · have hn1 : x ∉ M := fun e => hn (List.mem_append_left _ e)
    rcases List.mem_append.1 hmm with hmm | hmm
    · exact h.rest x hx hm hn1 m hmm
    · simp at hmm
      subst hmm
      have hr := hL x hx
      have := h4 (x - 1).toNat (by omega)
      rw [show (((x - 1).toNat : Nat) : Int) + 1 = x by omega] at this
      exact this (by simp [canB, hx, hn1, hm])
theorem Sofar.done {g : List OB} {white L M : List Int} (h : Sofar g L M) (hw : ∀ x, x ∈ L ↔ x ∈ white ∧ looksB g x = true) (hB : Best g L M g.length 0) : M = markS g (marksL g white) := by
  refine markS_unique ?_ h.pair
  rw [List.perm_iff_count]
  intro x
  have hn : (marksL g white).Nodup := List.Nodup.sublist List.filter_sublist (rise_nodup (whites_spec g white).1)
  rw [h.nodup.count, hn.count]
  have : x ∈ M ↔ x ∈ marksL g white := by
    unfold marksL
    rw [List.mem_filter, (whites_spec g white).2 x, ← hw x, decide_eq_true_iff]
    refine ⟨fun hx => h.sub x hx, fun ⟨h1, h2⟩ => ?_⟩
    rcases hB with ⟨_, hz⟩ | ⟨h1, _⟩
    · by_cases hx : x ∈ M
      · exact hx
      · have hr := looks_range ((hw x).1 h1).2
        have := hz (x - 1).toNat (by omega)
        rw [show (((x - 1).toNat : Nat) : Int) + 1 = x by omega] at this
        simp [canB, h1, hx] at this
        omega
    · omega
  simp [this]
theorem Sofar.len {g : List OB} {L M : List Int} (h : Sofar g L M) {n : Nat} (hL : ∀ x ∈ L, 1 ≤ x ∧ x ≤ n) : M.length ≤ n := nums_short h.nodup fun x hx => hL x (h.sub x hx).1
/-- What is gone: of the white ones those that are not reached from the marked ones. -/
theorem gone_but {g : List OB} (hn : g.length ≤ 900) {white L M : List Int} (hw : ∀ x, x ∈ L ↔ x ∈ white ∧ looksB g x = true) (hM : M = markS g (marksL g white)) {p : Int → Bool} (hp : ∀ x, p x = decide (x ∈ L)) : butF L (followF g p (g.length + 1) 0 M) g.length = goneL g white := by
  have hw2 : ∀ x, x ∈ whitesL g white ↔ x ∈ L := fun x => by rw [(whites_spec g white).2 x, hw x]
  have hMm : ∀ x, x ∈ M ↔ x ∈ marksL g white := fun x => by rw [hM]; unfold markS; exact (List.mergeSort_perm _ _).mem_iff
  have hMn : M.Nodup := by
    rw [hM]; unfold markS
    exact (List.mergeSort_perm _ _).nodup_iff.2 (List.Nodup.sublist List.filter_sublist (rise_nodup (whites_spec g white).1))
  have hML : ∀ x ∈ M, x ∈ L := fun x hx => (hw2 x).1 (List.mem_filter.1 ((hMm x).1 hx)).1
  have hLr : ∀ x ∈ L, 1 ≤ x ∧ x ≤ g.length := fun x hx => looks_range ((hw x).1 hx).2
  have h := followF_spec (g := g) (whom := p) (first := M) (fun n h => by
    have := h.whom
    rw [hp, decide_eq_true_iff] at this
    exact hLr n this) (g.length + 1) 0 M (by omega) (Nat.zero_le _) hMn (fun n hn => .root hn (by rw [hp]; exact decide_eq_true (hML n hn))) (fun n hn _ => hn) (fun j n x hj => absurd hj (Nat.not_lt_zero _))
  have hwl := whites_len g white
  have hpq : ∀ x, decide (cntF (whitesL g white) x > 0) = p x := fun x => by
    rw [named_iff (by omega), hp, decide_eq_decide]
    exact hw2 x
  have hk := (kept_fol g hn white).2
  have e : ∀ x, Fol g p M x ↔ Fol g (fun n => decide (cntF (whitesL g white) n > 0)) (marksL g white) x := fun x => by
    have ef : (fun n => decide (cntF (whitesL g white) n > 0)) = p := funext hpq
    rw [ef]
    constructor
    · intro h
      induction h with
      | root h1 h2 => exact .root ((hMm _).1 h1) h2
      | step _ h2 h3 ih => exact .step ih h2 h3
    · intro h
      induction h with
      | root h1 h2 => exact .root ((hMm _).2 h1) h2
      | step _ h2 h3 ih => exact .step ih h2 h3
  refine rise_same (butF_rise _ _ _) ((whites_spec g white).1.filter _) fun x => ?_
  rw [butF_mem]
  unfold goneL
  have hkl : (keptL g white).length ≤ g.length := nums_short (kept_fol g hn white).1 fun y hy => hLr y ((hw2 y).1 (kept_white g hn white hy))
  rw [List.mem_filter, hw2, cnt_zero (by omega), decide_eq_true_iff, hk x, ← e x, h.2 x]
  constructor
  · rintro ⟨_, _, h3, h4⟩; exact ⟨h3, h4⟩
  · rintro ⟨h3, h4⟩
    have := hLr x h3
    exact ⟨this.1, this.2, h3, h4⟩
end Go.Proofs.Ytjlobjgemhapaaa
