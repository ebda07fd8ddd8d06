/- LexKnown's closed facts: each sign and reserved word is one word; what is none; numbers at the limit; strings at the limit. No walk, no program. -/
import Derived.Test.YteoccfmhpakplaaGreatDoorLexWorks
namespace Go.Proofs.YteoccfmhpakplaaGreatDoor.lexKnown
set_option maxRecDepth 100000

theorem tokL_feeds : ∀ (n : Nat) (t : List UInt8) (l : Nat), tokL (List.replicate n 10 ++ t) l = tokL t (l + n)
  | 0, t, l => by simp
  | n + 1, t, l => by
    rw [List.replicate_succ, List.cons_append, tokL_space l (by decide), if_pos rfl, tokL_feeds n]
    congr 1; omega
theorem string_word (s : List UInt8) (r : List UInt8) (hs : s.length ≤ 4096) : kindL (quoteL s ++ r) = 3 ∧ wordL (quoteL s ++ r) = ⟨0, 3, s, 0, (quoteL s).length⟩ := by
  have hc : quoteL s ++ r = 34 :: (bodyL s ++ 34 :: r) := by unfold quoteL; simp
  have hk : kindL (quoteL s ++ r) = 3 := by
    rw [hc]
    rcases kind_cases 34 (bodyL s ++ 34 :: r) with ⟨g, _⟩ | ⟨_, ⟨h, _⟩ | ⟨_, h, _⟩ | ⟨_, _, _, e⟩ | ⟨_, _, h, _⟩⟩
    · rcases g with g | g
      · exact absurd g (by decide)
      · rw [prefix_take] at g; simp at g
    · exact absurd h (by decide)
    · exact absurd h (by decide)
    · exact e
    · exact absurd rfl h
  have hq : quotedN (quoteL s ++ r) = (quoteL s).length := by
    have h1 := closeF_of_R _ _ _ (close_read _ (bodyL s) s r (Nat.le_refl _) (read_body s))
    unfold quotedN
    rw [hc, List.drop_one, List.tail_cons, h1, quote_length]
  refine ⟨hk, ?_⟩
  unfold wordL
  rw [hk]
  show strW (headL 3 (quoteL s ++ r)) = _
  have eh : headL 3 (quoteL s ++ r) = quoteL s := by
    unfold headL
    rw [if_neg (by omega), if_pos rfl, hq, List.take_left']
    rfl
  rw [eh]
  have e0 : unqL (quoteL s) = (s, 0) := by rw [unq_quote, if_neg (by omega)]
  unfold strW
  rw [e0]; rfl
def sgL : List (List UInt8) := [[43], [45], [42], [47, 47], [37], [38], [124], [126], [60, 60], [62, 62], [61, 61], [126, 61], [60, 61], [62, 61], [60], [62], [61], [46, 46], [46], [44], [40], [41], [91], [93], [123], [125], [35], [97, 110, 100], [98, 114, 101, 97, 107], [99, 97, 116, 99, 104], [100, 111], [101, 108, 115, 101], [101, 108, 115, 101, 105, 102], [101, 110, 100], [102, 97, 108, 115, 101], [102, 111, 114], [102, 117, 110, 99, 116, 105, 111, 110], [105, 102], [108, 111, 99, 97, 108], [110, 105, 108], [110, 111, 116], [111, 114], [114, 101, 116, 117, 114, 110], [116, 104, 101, 110], [116, 114, 117, 101], [116, 114, 121], [119, 104, 105, 108, 101]]
def bdL : List (List UInt8) := [[48, 49], [36], [49, 95], [34], [34, 97, 10, 34], [34, 92], [34, 92, 10, 34], [34, 92, 113, 34], [47], [33], [97, 49, 50, 51, 52, 53, 54, 55, 56, 57, 48, 49, 50, 51, 52, 53, 54, 55, 56, 57, 48, 49, 50, 51, 52], [0], [39], [195, 169], [48, 48]]
def sgT (k : Nat) : ByteArray := ⟨(sgL.getD k []).toArray⟩
def bdT (k : Nat) : ByteArray := ⟨(bdL.getD k []).toArray⟩
theorem sg0 : lexL (sgT 0).data.toList = ⟨[⟨4, (sgT 0).data.toList, 0, 0⟩, ⟨5, [], 0, 0⟩], 0, 0⟩ := by kernel_rfl
theorem sg1 : lexL (sgT 1).data.toList = ⟨[⟨4, (sgT 1).data.toList, 0, 0⟩, ⟨5, [], 0, 0⟩], 0, 0⟩ := by kernel_rfl
theorem sg2 : lexL (sgT 2).data.toList = ⟨[⟨4, (sgT 2).data.toList, 0, 0⟩, ⟨5, [], 0, 0⟩], 0, 0⟩ := by kernel_rfl
theorem sg3 : lexL (sgT 3).data.toList = ⟨[⟨4, (sgT 3).data.toList, 0, 0⟩, ⟨5, [], 0, 0⟩], 0, 0⟩ := by kernel_rfl
theorem sg4 : lexL (sgT 4).data.toList = ⟨[⟨4, (sgT 4).data.toList, 0, 0⟩, ⟨5, [], 0, 0⟩], 0, 0⟩ := by kernel_rfl
theorem sg5 : lexL (sgT 5).data.toList = ⟨[⟨4, (sgT 5).data.toList, 0, 0⟩, ⟨5, [], 0, 0⟩], 0, 0⟩ := by kernel_rfl
theorem sg6 : lexL (sgT 6).data.toList = ⟨[⟨4, (sgT 6).data.toList, 0, 0⟩, ⟨5, [], 0, 0⟩], 0, 0⟩ := by kernel_rfl
theorem sg7 : lexL (sgT 7).data.toList = ⟨[⟨4, (sgT 7).data.toList, 0, 0⟩, ⟨5, [], 0, 0⟩], 0, 0⟩ := by kernel_rfl
theorem sg8 : lexL (sgT 8).data.toList = ⟨[⟨4, (sgT 8).data.toList, 0, 0⟩, ⟨5, [], 0, 0⟩], 0, 0⟩ := by kernel_rfl
theorem sg9 : lexL (sgT 9).data.toList = ⟨[⟨4, (sgT 9).data.toList, 0, 0⟩, ⟨5, [], 0, 0⟩], 0, 0⟩ := by kernel_rfl
theorem sg10 : lexL (sgT 10).data.toList = ⟨[⟨4, (sgT 10).data.toList, 0, 0⟩, ⟨5, [], 0, 0⟩], 0, 0⟩ := by kernel_rfl
theorem sg11 : lexL (sgT 11).data.toList = ⟨[⟨4, (sgT 11).data.toList, 0, 0⟩, ⟨5, [], 0, 0⟩], 0, 0⟩ := by kernel_rfl
theorem sg12 : lexL (sgT 12).data.toList = ⟨[⟨4, (sgT 12).data.toList, 0, 0⟩, ⟨5, [], 0, 0⟩], 0, 0⟩ := by kernel_rfl
theorem sg13 : lexL (sgT 13).data.toList = ⟨[⟨4, (sgT 13).data.toList, 0, 0⟩, ⟨5, [], 0, 0⟩], 0, 0⟩ := by kernel_rfl
theorem sg14 : lexL (sgT 14).data.toList = ⟨[⟨4, (sgT 14).data.toList, 0, 0⟩, ⟨5, [], 0, 0⟩], 0, 0⟩ := by kernel_rfl
theorem sg15 : lexL (sgT 15).data.toList = ⟨[⟨4, (sgT 15).data.toList, 0, 0⟩, ⟨5, [], 0, 0⟩], 0, 0⟩ := by kernel_rfl
theorem sg16 : lexL (sgT 16).data.toList = ⟨[⟨4, (sgT 16).data.toList, 0, 0⟩, ⟨5, [], 0, 0⟩], 0, 0⟩ := by kernel_rfl
theorem sg17 : lexL (sgT 17).data.toList = ⟨[⟨4, (sgT 17).data.toList, 0, 0⟩, ⟨5, [], 0, 0⟩], 0, 0⟩ := by kernel_rfl
theorem sg18 : lexL (sgT 18).data.toList = ⟨[⟨4, (sgT 18).data.toList, 0, 0⟩, ⟨5, [], 0, 0⟩], 0, 0⟩ := by kernel_rfl
theorem sg19 : lexL (sgT 19).data.toList = ⟨[⟨4, (sgT 19).data.toList, 0, 0⟩, ⟨5, [], 0, 0⟩], 0, 0⟩ := by kernel_rfl
theorem sg20 : lexL (sgT 20).data.toList = ⟨[⟨4, (sgT 20).data.toList, 0, 0⟩, ⟨5, [], 0, 0⟩], 0, 0⟩ := by kernel_rfl
theorem sg21 : lexL (sgT 21).data.toList = ⟨[⟨4, (sgT 21).data.toList, 0, 0⟩, ⟨5, [], 0, 0⟩], 0, 0⟩ := by kernel_rfl
theorem sg22 : lexL (sgT 22).data.toList = ⟨[⟨4, (sgT 22).data.toList, 0, 0⟩, ⟨5, [], 0, 0⟩], 0, 0⟩ := by kernel_rfl
theorem sg23 : lexL (sgT 23).data.toList = ⟨[⟨4, (sgT 23).data.toList, 0, 0⟩, ⟨5, [], 0, 0⟩], 0, 0⟩ := by kernel_rfl
theorem sg24 : lexL (sgT 24).data.toList = ⟨[⟨4, (sgT 24).data.toList, 0, 0⟩, ⟨5, [], 0, 0⟩], 0, 0⟩ := by kernel_rfl
theorem sg25 : lexL (sgT 25).data.toList = ⟨[⟨4, (sgT 25).data.toList, 0, 0⟩, ⟨5, [], 0, 0⟩], 0, 0⟩ := by kernel_rfl
theorem sg26 : lexL (sgT 26).data.toList = ⟨[⟨4, (sgT 26).data.toList, 0, 0⟩, ⟨5, [], 0, 0⟩], 0, 0⟩ := by kernel_rfl
theorem sg27 : lexL (sgT 27).data.toList = ⟨[⟨4, (sgT 27).data.toList, 0, 0⟩, ⟨5, [], 0, 0⟩], 0, 0⟩ := by kernel_rfl
theorem sg28 : lexL (sgT 28).data.toList = ⟨[⟨4, (sgT 28).data.toList, 0, 0⟩, ⟨5, [], 0, 0⟩], 0, 0⟩ := by kernel_rfl
theorem sg29 : lexL (sgT 29).data.toList = ⟨[⟨4, (sgT 29).data.toList, 0, 0⟩, ⟨5, [], 0, 0⟩], 0, 0⟩ := by kernel_rfl
theorem sg30 : lexL (sgT 30).data.toList = ⟨[⟨4, (sgT 30).data.toList, 0, 0⟩, ⟨5, [], 0, 0⟩], 0, 0⟩ := by kernel_rfl
theorem sg31 : lexL (sgT 31).data.toList = ⟨[⟨4, (sgT 31).data.toList, 0, 0⟩, ⟨5, [], 0, 0⟩], 0, 0⟩ := by kernel_rfl
theorem sg32 : lexL (sgT 32).data.toList = ⟨[⟨4, (sgT 32).data.toList, 0, 0⟩, ⟨5, [], 0, 0⟩], 0, 0⟩ := by kernel_rfl
theorem sg33 : lexL (sgT 33).data.toList = ⟨[⟨4, (sgT 33).data.toList, 0, 0⟩, ⟨5, [], 0, 0⟩], 0, 0⟩ := by kernel_rfl
theorem sg34 : lexL (sgT 34).data.toList = ⟨[⟨4, (sgT 34).data.toList, 0, 0⟩, ⟨5, [], 0, 0⟩], 0, 0⟩ := by kernel_rfl
theorem sg35 : lexL (sgT 35).data.toList = ⟨[⟨4, (sgT 35).data.toList, 0, 0⟩, ⟨5, [], 0, 0⟩], 0, 0⟩ := by kernel_rfl
theorem sg36 : lexL (sgT 36).data.toList = ⟨[⟨4, (sgT 36).data.toList, 0, 0⟩, ⟨5, [], 0, 0⟩], 0, 0⟩ := by kernel_rfl
theorem sg37 : lexL (sgT 37).data.toList = ⟨[⟨4, (sgT 37).data.toList, 0, 0⟩, ⟨5, [], 0, 0⟩], 0, 0⟩ := by kernel_rfl
theorem sg38 : lexL (sgT 38).data.toList = ⟨[⟨4, (sgT 38).data.toList, 0, 0⟩, ⟨5, [], 0, 0⟩], 0, 0⟩ := by kernel_rfl
theorem sg39 : lexL (sgT 39).data.toList = ⟨[⟨4, (sgT 39).data.toList, 0, 0⟩, ⟨5, [], 0, 0⟩], 0, 0⟩ := by kernel_rfl
theorem sg40 : lexL (sgT 40).data.toList = ⟨[⟨4, (sgT 40).data.toList, 0, 0⟩, ⟨5, [], 0, 0⟩], 0, 0⟩ := by kernel_rfl
theorem sg41 : lexL (sgT 41).data.toList = ⟨[⟨4, (sgT 41).data.toList, 0, 0⟩, ⟨5, [], 0, 0⟩], 0, 0⟩ := by kernel_rfl
theorem sg42 : lexL (sgT 42).data.toList = ⟨[⟨4, (sgT 42).data.toList, 0, 0⟩, ⟨5, [], 0, 0⟩], 0, 0⟩ := by kernel_rfl
theorem sg43 : lexL (sgT 43).data.toList = ⟨[⟨4, (sgT 43).data.toList, 0, 0⟩, ⟨5, [], 0, 0⟩], 0, 0⟩ := by kernel_rfl
theorem sg44 : lexL (sgT 44).data.toList = ⟨[⟨4, (sgT 44).data.toList, 0, 0⟩, ⟨5, [], 0, 0⟩], 0, 0⟩ := by kernel_rfl
theorem sg45 : lexL (sgT 45).data.toList = ⟨[⟨4, (sgT 45).data.toList, 0, 0⟩, ⟨5, [], 0, 0⟩], 0, 0⟩ := by kernel_rfl
theorem sg46 : lexL (sgT 46).data.toList = ⟨[⟨4, (sgT 46).data.toList, 0, 0⟩, ⟨5, [], 0, 0⟩], 0, 0⟩ := by kernel_rfl
theorem bd0 : lexL (10 :: (bdT 0).data.toList) = ⟨[], 14, 1⟩ := by kernel_rfl
theorem bd1 : lexL (10 :: (bdT 1).data.toList) = ⟨[], 14, 1⟩ := by kernel_rfl
theorem bd2 : lexL (10 :: (bdT 2).data.toList) = ⟨[], 14, 1⟩ := by kernel_rfl
theorem bd3 : lexL (10 :: (bdT 3).data.toList) = ⟨[], 14, 1⟩ := by kernel_rfl
theorem bd4 : lexL (10 :: (bdT 4).data.toList) = ⟨[], 14, 1⟩ := by kernel_rfl
theorem bd5 : lexL (10 :: (bdT 5).data.toList) = ⟨[], 14, 1⟩ := by kernel_rfl
theorem bd6 : lexL (10 :: (bdT 6).data.toList) = ⟨[], 14, 1⟩ := by kernel_rfl
theorem bd7 : lexL (10 :: (bdT 7).data.toList) = ⟨[], 14, 1⟩ := by kernel_rfl
theorem bd8 : lexL (10 :: (bdT 8).data.toList) = ⟨[], 14, 1⟩ := by kernel_rfl
theorem bd9 : lexL (10 :: (bdT 9).data.toList) = ⟨[], 14, 1⟩ := by kernel_rfl
theorem bd10 : lexL (10 :: (bdT 10).data.toList) = ⟨[], 14, 1⟩ := by kernel_rfl
theorem bd11 : lexL (10 :: (bdT 11).data.toList) = ⟨[], 14, 1⟩ := by kernel_rfl
theorem bd12 : lexL (10 :: (bdT 12).data.toList) = ⟨[], 14, 1⟩ := by kernel_rfl
theorem bd13 : lexL (10 :: (bdT 13).data.toList) = ⟨[], 14, 1⟩ := by kernel_rfl
theorem bd14 : lexL (10 :: (bdT 14).data.toList) = ⟨[], 14, 1⟩ := by kernel_rfl
theorem sg_all (k : Nat) (hk : k < 47) : lexL (sgT k).data.toList = ⟨[⟨4, (sgT k).data.toList, 0, 0⟩, ⟨5, [], 0, 0⟩], 0, 0⟩ := by
  have : k = 0 ∨ k = 1 ∨ k = 2 ∨ k = 3 ∨ k = 4 ∨ k = 5 ∨ k = 6 ∨ k = 7 ∨ k = 8 ∨ k = 9 ∨ k = 10 ∨ k = 11 ∨ k = 12 ∨ k = 13 ∨ k = 14 ∨ k = 15 ∨ k = 16 ∨ k = 17 ∨ k = 18 ∨ k = 19 ∨ k = 20 ∨ k = 21 ∨ k = 22 ∨ k = 23 ∨ k = 24 ∨ k = 25 ∨ k = 26 ∨ k = 27 ∨ k = 28 ∨ k = 29 ∨ k = 30 ∨ k = 31 ∨ k = 32 ∨ k = 33 ∨ k = 34 ∨ k = 35 ∨ k = 36 ∨ k = 37 ∨ k = 38 ∨ k = 39 ∨ k = 40 ∨ k = 41 ∨ k = 42 ∨ k = 43 ∨ k = 44 ∨ k = 45 ∨ k = 46 := by omega
  rcases this with rfl | rfl | rfl | rfl | rfl | rfl | rfl | rfl | rfl | rfl | rfl | rfl | rfl | rfl | rfl | rfl | rfl | rfl | rfl | rfl | rfl | rfl | rfl | rfl | rfl | rfl | rfl | rfl | rfl | rfl | rfl | rfl | rfl | rfl | rfl | rfl | rfl | rfl | rfl | rfl | rfl | rfl | rfl | rfl | rfl | rfl | rfl
  · exact sg0
  · exact sg1
  · exact sg2
  · exact sg3
  · exact sg4
  · exact sg5
  · exact sg6
  · exact sg7
  · exact sg8
  · exact sg9
  · exact sg10
  · exact sg11
  · exact sg12
  · exact sg13
  · exact sg14
  · exact sg15
  · exact sg16
  · exact sg17
  · exact sg18
  · exact sg19
  · exact sg20
  · exact sg21
  · exact sg22
  · exact sg23
  · exact sg24
  · exact sg25
  · exact sg26
  · exact sg27
  · exact sg28
  · exact sg29
  · exact sg30
  · exact sg31
  · exact sg32
  · exact sg33
  · exact sg34
  · exact sg35
  · exact sg36
  · exact sg37
  · exact sg38
  · exact sg39
  · exact sg40
  · exact sg41
  · exact sg42
  · exact sg43
  · exact sg44
  · exact sg45
  · exact sg46
theorem bd_all (k : Nat) (hk : k < 15) : lexL (10 :: (bdT k).data.toList) = ⟨[], 14, 1⟩ := by
  have : k = 0 ∨ k = 1 ∨ k = 2 ∨ k = 3 ∨ k = 4 ∨ k = 5 ∨ k = 6 ∨ k = 7 ∨ k = 8 ∨ k = 9 ∨ k = 10 ∨ k = 11 ∨ k = 12 ∨ k = 13 ∨ k = 14 := by omega
  rcases this with rfl | rfl | rfl | rfl | rfl | rfl | rfl | rfl | rfl | rfl | rfl | rfl | rfl | rfl | rfl
  · exact bd0
  · exact bd1
  · exact bd2
  · exact bd3
  · exact bd4
  · exact bd5
  · exact bd6
  · exact bd7
  · exact bd8
  · exact bd9
  · exact bd10
  · exact bd11
  · exact bd12
  · exact bd13
  · exact bd14
theorem over : lexL (ByteArray.mk #[57, 50, 50, 51, 51, 55, 50, 48, 51, 54, 56, 53, 52, 55, 55, 53, 56, 48, 56]).data.toList = ⟨[], 15, 0⟩ := by kernel_rfl
theorem most : lexL (ByteArray.mk #[57, 50, 50, 51, 51, 55, 50, 48, 51, 54, 56, 53, 52, 55, 55, 53, 56, 48, 55, 45, 45, 32, 120]).data.toList = ⟨[⟨2, [57, 50, 50, 51, 51, 55, 50, 48, 51, 54, 56, 53, 52, 55, 55, 53, 56, 48, 55], 9223372036854775807, 0⟩, ⟨5, [], 0, 0⟩], 0, 0⟩ := by kernel_rfl
theorem many_signs : lexL (ByteArray.mk #[97, 46, 46, 46, 98, 60, 60, 61, 99, 126, 61, 61, 100]).data.toList = ⟨[⟨1, [97], 0, 0⟩, ⟨4, [46, 46], 0, 0⟩, ⟨4, [46], 0, 0⟩, ⟨1, [98], 0, 0⟩, ⟨4, [60, 60], 0, 0⟩, ⟨4, [61], 0, 0⟩, ⟨1, [99], 0, 0⟩, ⟨4, [126, 61], 0, 0⟩, ⟨4, [61], 0, 0⟩, ⟨1, [100], 0, 0⟩, ⟨5, [], 0, 0⟩], 0, 0⟩ := by kernel_rfl
theorem esc_str : lexL (ByteArray.mk #[34, 92, 34, 92, 92, 34, 32, 120]).data.toList = ⟨[⟨3, [34, 92], 0, 0⟩, ⟨1, [120], 0, 0⟩, ⟨5, [], 0, 0⟩], 0, 0⟩ := by kernel_rfl
theorem long_text (l : List UInt8) (h : 32768 < l.length) : lexL l = ⟨[], 3, 0⟩ := by unfold lexL; rw [if_pos h]
theorem body_a (n : Nat) : bodyL (List.replicate n 97) = List.replicate n 97 := by
  unfold bodyL
  induction n with
  | zero => rfl
  | succ n ih => rw [List.replicate_succ, List.flatMap_cons, ih]; rfl
theorem quote_a (n : Nat) : quoteL (List.replicate n 97) = 34 :: (List.replicate n 97 ++ [34]) := by unfold quoteL; rw [body_a]
theorem long_word (s r : List UInt8) (hs : 4096 < s.length) : kindL (quoteL s ++ r) = 3 ∧ wordL (quoteL s ++ r) = badW 3 := by
  have hc : quoteL s ++ r = 34 :: (bodyL s ++ 34 :: r) := by unfold quoteL; simp
  have hk : kindL (quoteL s ++ r) = 3 := by
    rw [hc]
    rcases kind_cases 34 (bodyL s ++ 34 :: r) with ⟨g, _⟩ | ⟨_, ⟨h, _⟩ | ⟨_, h, _⟩ | ⟨_, _, _, e⟩ | ⟨_, _, h, _⟩⟩
    · rcases g with g | g
      · exact absurd g (by decide)
      · rw [prefix_take] at g; simp at g
    · exact absurd h (by decide)
    · exact absurd h (by decide)
    · exact e
    · exact absurd rfl h
  have hq : quotedN (quoteL s ++ r) = (quoteL s).length := by
    have h1 := closeF_of_R _ _ _ (close_read _ (bodyL s) s r (Nat.le_refl _) (read_body s))
    unfold quotedN
    rw [hc, List.drop_one, List.tail_cons, h1, quote_length]
  refine ⟨hk, ?_⟩
  unfold wordL
  rw [hk]
  show strW (headL 3 (quoteL s ++ r)) = _
  have eh : headL 3 (quoteL s ++ r) = quoteL s := by
    unfold headL
    rw [if_neg (by omega), if_pos rfl, hq, List.take_left']
    rfl
  rw [eh]
  have e0 : unqL (quoteL s) = ([], 3) := by rw [unq_quote, if_pos hs]
  unfold strW
  rw [e0]; rfl
/-- Three line feeds, a string of 2000 bytes, and one that is too long. -/
theorem long_string : lexL (List.replicate 3 10 ++ quoteL (List.replicate 2000 0) ++ [34] ++ List.replicate 4097 97 ++ [34]) = ⟨[], 3, 3⟩ := by
  have e : List.replicate 3 10 ++ quoteL (List.replicate 2000 0) ++ [34] ++ List.replicate 4097 97 ++ [34] = List.replicate 3 10 ++ (quoteL (List.replicate 2000 0) ++ quoteL (List.replicate 4097 97)) := by
    rw [quote_a]; simp only [List.append_assoc, List.cons_append, List.nil_append]
  have hb := body_length (List.replicate 2000 0)
  rw [List.length_replicate] at hb
  rw [e]
  unfold lexL
  rw [if_neg (by rw [List.length_append, List.length_append, List.length_replicate, quote_length, quote_length, body_a, List.length_replicate]; omega), tokL_feeds, Nat.zero_add]
  obtain ⟨h1, h2⟩ := string_word (List.replicate 2000 0) (quoteL (List.replicate 4097 97)) (by rw [List.length_replicate]; omega)
  rw [tokL_word 3 (by unfold quoteL; simp) (by rw [h1]; decide) (by rw [h2]), h2]
  have h3 := long_word (List.replicate 4097 97) [] (by rw [List.length_replicate]; omega)
  rw [List.append_nil] at h3
  show pushL _ (tokL ((quoteL (List.replicate 2000 0) ++ quoteL (List.replicate 4097 97)).drop (quoteL (List.replicate 2000 0)).length) 3) = _
  rw [List.drop_left' rfl, tokL_bad 3 (by rw [quote_a]; simp) (by rw [h3.1]; decide) (by rw [h3.2]; decide), h3.2]
  rfl
theorem most_string : lexL ([34] ++ List.replicate 4096 97 ++ [34]) = ⟨[⟨3, List.replicate 4096 97, 0, 0⟩, ⟨5, [], 0, 0⟩], 0, 0⟩ := by
  have e : ([34] ++ List.replicate 4096 97 ++ [34] : List UInt8) = quoteL (List.replicate 4096 97) := by rw [quote_a]; rfl
  rw [e]
  unfold lexL
  rw [if_neg (by rw [quote_length, body_a, List.length_replicate]; omega)]
  obtain ⟨h1, h2⟩ := string_word (List.replicate 4096 97) [] (by rw [List.length_replicate]; omega)
  rw [List.append_nil] at h1 h2
  rw [tokL_word 0 (by rw [quote_a]; simp) (by rw [h1]; decide) (by rw [h2]), h2]
  show pushL _ (tokL ((quoteL (List.replicate 4096 97)).drop (quoteL (List.replicate 4096 97)).length) 0) = _
  rw [List.drop_length]
  rfl
end Go.Proofs.YteoccfmhpakplaaGreatDoor.lexKnown
