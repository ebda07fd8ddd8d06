/- Expressions with all their parentheses: their text, their words, their tree, as plain functions; the parser takes them for just what they say, or they are too deep. No walk. -/
import Derived.Test.YtebkdegcifkigaaGreatDoorParStrM
namespace Go.Proofs.YtebkdegcifkigaaGreatDoor.P5
set_option maxRecDepth 20000

inductive Fm where
  | nm (s : UInt8)
  | un (u : Nat) (f : Fm)
  | bin (o : Nat) (f g : Fm)
def opB (o : Nat) : List UInt8 := opsL.getD (o % 19) []
def unB (u : Nat) : List UInt8 := unL.getD (u % 4) []
def txF : Fm → List UInt8
  | .nm s => [s]
  | .un u f => [40] ++ unB u ++ [32] ++ txF f ++ [41]
  | .bin o f g => [40] ++ txF f ++ [32] ++ opB o ++ [32] ++ txF g ++ [41]
def tkF : Fm → List Tok
  | .nm s => [⟨1, [s], 0, 0⟩]
  | .un u f => ⟨4, [40], 0, 0⟩ :: ⟨4, unB u, 0, 0⟩ :: (tkF f ++ [⟨4, [41], 0, 0⟩])
  | .bin o f g => ⟨4, [40], 0, 0⟩ :: (tkF f ++ ⟨4, opB o, 0, 0⟩ :: (tkF g ++ [⟨4, [41], 0, 0⟩]))
def treeF : Fm → Tree
  | .nm s => .ex 6 0 0 [s] .nil .nil .nil .nil .nil .nil
  | .un u f => .ex 10 0 0 (unB u) .nil (treeF f) .nil .nil .nil .nil
  | .bin o f g => .ex 11 0 0 (opB o) (treeF f) (treeF g) .nil .nil .nil .nil
/-- Letters alone. -/
def okF : Fm → Prop
  | .nm s => s = 97 ∨ s = 98 ∨ s = 99 ∨ s = 122
  | .un _ f => okF f
  | .bin _ f g => okF f ∧ okF g
def dotsB (o : Nat) : Bool := opB o == [46, 46]
def fitsF : Nat → Fm → Bool
  | _, .nm _ => true
  | d, .un _ f => decide (d < 64) && (decide (d + 1 < 64) && fitsF (d + 2) f)
  | d, .bin o f g => decide (d < 64) && (fitsF (d + 1) f && (if dotsB o = true then decide (d + 1 < 64) && fitsF (d + 2) g else fitsF (d + 1) g))
def costF : Fm → Nat
  | .nm _ => 10
  | .un _ f => costF f + 12
  | .bin _ f g => costF f + costF g + 12
theorem shape_tree_F : ∀ f, shapeT (treeF f) = txF f
  | .nm s => by simp only [treeF, shapeT, txF]; rfl
  | .un u f => by
    simp only [treeF, shapeT, txF, shape_tree_F f]
    rw [if_neg (by decide), if_neg (by decide), if_pos trivial]
  | .bin o f g => by
    simp only [treeF, shapeT, txF, shape_tree_F f, shape_tree_F g]
    rw [if_neg (by decide), if_pos trivial]
theorem wf_tree_F : ∀ f, wfE (treeF f) = true
  | .nm s => rfl
  | .un u f => by simp only [treeF, wfE, wf_tree_F f]; rfl
  | .bin o f g => by simp only [treeF, wfE, wf_tree_F f, wf_tree_F g]; rfl
theorem ex_tree_F (f : Fm) : isEx (treeF f) = true := by cases f <;> rfl
theorem cost_le : ∀ f, costF f ≤ 12 * (txF f).length
  | .nm s => by simp [costF, txF]
  | .un u f => by have := cost_le f; simp only [costF, txF, List.length_append, List.length_cons, List.length_nil]; omega
  | .bin o f g => by have := cost_le f; have := cost_le g; simp only [costF, txF, List.length_append, List.length_cons, List.length_nil]; omega

/-! The words. -/
theorem blank_not5 {c : UInt8} {r : List UInt8} (h : blankB c = true) : Lib.hasPrefix (c :: r) [45, 45] = false := by
  cases hp : Lib.hasPrefix (c :: r) [45, 45] with
  | false => rfl
  | true =>
    obtain ⟨x, hx⟩ := hasPrefix_iff.1 hp
    have : c = 45 := by
      have := congrArg List.head? hx
      simpa using this
    subst this; revert h; decide
theorem kind_blank5 {c : UInt8} {r : List UInt8} (h : blankB c = true) : kindL (c :: r) = 0 := by
  unfold kindL; simp only []; rw [if_pos (.inl h)]
theorem tokL_run5 : ∀ (r : List UInt8) (l : Nat), tokL r l = tokL (r.drop (r.takeWhile blankB).length) (l + (r.takeWhile blankB).count 10)
  | [], l => rfl
  | c :: r, l => by
    cases hb : blankB c with
    | false => rw [List.takeWhile_cons, hb]; simp
    | true =>
      rw [tokL_blank l (kind_blank5 hb)]
      unfold blanksL
      rw [blank_not5 hb]; simp
theorem tokL_space5 {c : UInt8} {r : List UInt8} (l : Nat) (h : blankB c = true) : tokL (c :: r) l = tokL r (l + if c = 10 then 1 else 0) := by
  rw [tokL_run5 (c :: r), tokL_run5 r, List.takeWhile_cons, h]
  simp only [if_pos, List.length_cons, List.drop_succ_cons, List.count_cons, beq_iff_eq]
  congr 1
  omega
theorem tok_step {w r : List UInt8} {k : Nat} {x : List UInt8} (l : Nat) (hw : w ≠ []) (hk : kindL (w ++ r) ≠ 0) (h : wordL (w ++ r) = ⟨0, k, x, 0, w.length⟩) : tokL (w ++ r) l = pushL ⟨k, x, 0, l⟩ (tokL r l) := by
  rw [tokL_word l (by cases w with | nil => exact absurd rfl hw | cons => simp) hk (by rw [h]), h]
  show pushL _ (tokL ((w ++ r).drop w.length) l) = _
  rw [List.drop_left']
  rfl
theorem tok_sp (r : List UInt8) (l : Nat) : tokL (32 :: r) l = tokL r l := by rw [tokL_space5 l (by decide), if_neg (by decide)]; rfl
theorem tok_open (r : List UInt8) (l : Nat) : tokL (40 :: r) l = pushL ⟨4, [40], 0, l⟩ (tokL r l) := tok_step (w := [40]) l (by simp) (by show kindL (40 :: r) ≠ 0; rw [show kindL (40 :: r) = 4 from rfl]; decide) rfl
theorem tok_close (r : List UInt8) (l : Nat) : tokL (41 :: r) l = pushL ⟨4, [41], 0, l⟩ (tokL r l) := tok_step (w := [41]) l (by simp) (by show kindL (41 :: r) ≠ 0; rw [show kindL (41 :: r) = 4 from rfl]; decide) rfl
def okR : List UInt8 → Prop
  | [] => True
  | c :: _ => nameB c = false
theorem tok_name {s : UInt8} (hs : s = 97 ∨ s = 98 ∨ s = 99 ∨ s = 122) (r : List UInt8) (hr : okR r) (l : Nat) : tokL (s :: r) l = pushL ⟨1, [s], 0, l⟩ (tokL r l) := by
  have ht : (s :: r).takeWhile nameB = [s] := by
    rw [List.takeWhile_cons, if_pos (by rcases hs with rfl | rfl | rfl | rfl <;> decide)]
    cases r with
    | nil => rfl
    | cons c r => rw [List.takeWhile_cons, if_neg (by rw [show nameB c = false from hr]; decide)]
  have hk : kindL (s :: r) = 1 := by rcases hs with rfl | rfl | rfl | rfl <;> rfl
  refine tok_step (w := [s]) l (by simp) (by show kindL (s :: r) ≠ 0; rw [hk]; decide) ?_
  show readW (kindL (s :: r)) (headL (kindL (s :: r)) (s :: r)) = _
  rw [hk]
  have hh : headL 1 (s :: r) = [s] := by
    unfold headL
    rw [if_pos (.inl rfl), ht]
  rw [hh]
  rcases hs with rfl | rfl | rfl | rfl <;> rfl
theorem tok_op (o : Nat) (r : List UInt8) (l : Nat) : tokL (opB o ++ 32 :: r) l = pushL ⟨4, opB o, 0, l⟩ (tokL (32 :: r) l) := by
  unfold opB
  have h : o % 19 < 19 := Nat.mod_lt _ (by decide)
  generalize o % 19 = i at h
  match i, h with
  | 0, _ => exact tok_step (w := [111, 114]) l (by simp) (by rw [show kindL ([111, 114] ++ 32 :: r) = 1 from rfl]; decide) rfl
  | 1, _ => exact tok_step (w := [97, 110, 100]) l (by simp) (by rw [show kindL ([97, 110, 100] ++ 32 :: r) = 1 from rfl]; decide) rfl
  | 2, _ => exact tok_step (w := [60]) l (by simp) (by rw [show kindL ([60] ++ 32 :: r) = 4 from rfl]; decide) rfl
  | 3, _ => exact tok_step (w := [60, 61]) l (by simp) (by rw [show kindL ([60, 61] ++ 32 :: r) = 4 from rfl]; decide) rfl
  | 4, _ => exact tok_step (w := [62]) l (by simp) (by rw [show kindL ([62] ++ 32 :: r) = 4 from rfl]; decide) rfl
  | 5, _ => exact tok_step (w := [62, 61]) l (by simp) (by rw [show kindL ([62, 61] ++ 32 :: r) = 4 from rfl]; decide) rfl
  | 6, _ => exact tok_step (w := [61, 61]) l (by simp) (by rw [show kindL ([61, 61] ++ 32 :: r) = 4 from rfl]; decide) rfl
  | 7, _ => exact tok_step (w := [126, 61]) l (by simp) (by rw [show kindL ([126, 61] ++ 32 :: r) = 4 from rfl]; decide) rfl
  | 8, _ => exact tok_step (w := [124]) l (by simp) (by rw [show kindL ([124] ++ 32 :: r) = 4 from rfl]; decide) rfl
  | 9, _ => exact tok_step (w := [126]) l (by simp) (by rw [show kindL ([126] ++ 32 :: r) = 4 from rfl]; decide) rfl
  | 10, _ => exact tok_step (w := [38]) l (by simp) (by rw [show kindL ([38] ++ 32 :: r) = 4 from rfl]; decide) rfl
  | 11, _ => exact tok_step (w := [60, 60]) l (by simp) (by rw [show kindL ([60, 60] ++ 32 :: r) = 4 from rfl]; decide) rfl
  | 12, _ => exact tok_step (w := [62, 62]) l (by simp) (by rw [show kindL ([62, 62] ++ 32 :: r) = 4 from rfl]; decide) rfl
  | 13, _ => exact tok_step (w := [46, 46]) l (by simp) (by rw [show kindL ([46, 46] ++ 32 :: r) = 4 from rfl]; decide) rfl
  | 14, _ => exact tok_step (w := [43]) l (by simp) (by rw [show kindL ([43] ++ 32 :: r) = 4 from rfl]; decide) rfl
  | 15, _ => exact tok_step (w := [45]) l (by simp) (by rw [show kindL ([45] ++ 32 :: r) = 4 from rfl]; decide) rfl
  | 16, _ => exact tok_step (w := [42]) l (by simp) (by rw [show kindL ([42] ++ 32 :: r) = 4 from rfl]; decide) rfl
  | 17, _ => exact tok_step (w := [47, 47]) l (by simp) (by rw [show kindL ([47, 47] ++ 32 :: r) = 4 from rfl]; decide) rfl
  | 18, _ => exact tok_step (w := [37]) l (by simp) (by rw [show kindL ([37] ++ 32 :: r) = 4 from rfl]; decide) rfl
  | n + 19, h => omega
theorem tok_un (u : Nat) (r : List UInt8) (l : Nat) : tokL (unB u ++ 32 :: r) l = pushL ⟨4, unB u, 0, l⟩ (tokL (32 :: r) l) := by
  unfold unB
  have h : u % 4 < 4 := Nat.mod_lt _ (by decide)
  generalize u % 4 = i at h
  match i, h with
  | 0, _ => exact tok_step (w := [110, 111, 116]) l (by simp) (by rw [show kindL ([110, 111, 116] ++ 32 :: r) = 1 from rfl]; decide) rfl
  | 1, _ => exact tok_step (w := [45]) l (by simp) (by rw [show kindL ([45] ++ 32 :: r) = 4 from rfl]; decide) rfl
  | 2, _ => exact tok_step (w := [35]) l (by simp) (by rw [show kindL ([35] ++ 32 :: r) = 4 from rfl]; decide) rfl
  | 3, _ => exact tok_step (w := [126]) l (by simp) (by rw [show kindL ([126] ++ 32 :: r) = 4 from rfl]; decide) rfl
  | n + 4, h => omega
theorem glue_glue (a b : List Tok) (r : Lexed) : glueL a (glueL b r) = glueL (a ++ b) r := by
  unfold glueL
  by_cases h : r.err = 0
  · simp [h]
  · simp [h]
theorem push_glue (t : Tok) (r : Lexed) : pushL t r = glueL [t] r := by unfold glueL pushL; rfl
theorem lex_fm : ∀ (f : Fm) (r : List UInt8), okF f → okR r → tokL (txF f ++ r) 0 = glueL (tkF f) (tokL r 0)
  | .nm s, r, hf, hr => by
    show tokL (s :: r) 0 = _
    rw [tok_name hf r hr, push_glue]; rfl
  | .un u f, r, hf, hr => by
    have e : txF (.un u f) ++ r = 40 :: (unB u ++ 32 :: (txF f ++ 41 :: r)) := by simp [txF]
    rw [e, tok_open, tok_un, tok_sp, lex_fm f (41 :: r) hf (by show nameB 41 = false; decide), tok_close, push_glue, push_glue, push_glue, glue_glue, glue_glue, glue_glue]
    simp only [tkF, List.cons_append, List.nil_append]
  | .bin o f g, r, hf, hr => by
    have e : txF (.bin o f g) ++ r = 40 :: (txF f ++ 32 :: (opB o ++ 32 :: (txF g ++ 41 :: r))) := by simp [txF]
    rw [e, tok_open, lex_fm f _ hf.1 (by show nameB 32 = false; decide), tok_sp, tok_op, tok_sp, lex_fm g (41 :: r) hf.2 (by show nameB 41 = false; decide), tok_close, push_glue, push_glue, push_glue, glue_glue, glue_glue, glue_glue, glue_glue]
    simp only [tkF, List.append_assoc, List.cons_append, List.nil_append]
theorem tok_ret (r : List UInt8) (l : Nat) : tokL ([114, 101, 116, 117, 114, 110] ++ 32 :: r) l = pushL ⟨4, [114, 101, 116, 117, 114, 110], 0, l⟩ (tokL (32 :: r) l) :=
  tok_step (w := [114, 101, 116, 117, 114, 110]) l (by simp) (by rw [show kindL ([114, 101, 116, 117, 114, 110] ++ 32 :: r) = 1 from rfl]; decide) rfl
theorem lex_whole (f : Fm) (hf : okF f) (hl : (txF f).length ≤ 1000) : lexL (retL ++ txF f) = ⟨⟨4, [114, 101, 116, 117, 114, 110], 0, 0⟩ :: (tkF f ++ [⟨5, [], 0, 0⟩]), 0, 0⟩ := by
  unfold lexL
  rw [if_neg (by simp [retL]; omega)]
  have e : retL ++ txF f = [114, 101, 116, 117, 114, 110] ++ 32 :: (txF f ++ []) := by simp [retL]
  rw [e, tok_ret, tok_sp, lex_fm f [] hf trivial, tokL_nil, push_glue, glue_glue]
  simp [glueL]
end Go.Proofs.YtebkdegcifkigaaGreatDoor.P5
