/- LexKnown's tail: all that stands behind its two loops. -/
import Derived.Test.YteoccfmhpakplaaGreatDoorLexKnownB
namespace Go.Proofs.YteoccfmhpakplaaGreatDoor.lexKnown
set_option maxRecDepth 20000
open Go.ChangeShapes Go.WideShapes Go.ChangeAt Go.RowKit

set_option maxHeartbeats 40000000 in
theorem tail (w w0 : World) (hE : Env4 w) (hB0 : Below w.heap.size w w0) (K : Act → World → Prop) {c0 c1 c2 c3 c4 c5 c6 c7 c8 c9 c10 c11 c12 c13 c14 c15 c16 c17 c18 c19 c20 c21 c22 c23 c24 c25 c26 c27 c28 c29 c30 c31 c32 c33 c34 c35 c36 c37 c38 c39 c40 c41 c42 c43 c44 c45 c46 c47 c48 c49 c50 c51 c52 c53 c54 c55 c56 c57 c58 c59 c60 c61 c62 c63 c64 c65 c66 c67 c68 c69 c70 c71 c72 c73 c74 c75 c76 c77 c78 c79 c80 c81 c82 c83 c84 c85 c86 c87 c88 c89 c90 c91 c92 c93 c94 c95 c96 c97 c98 c99 c100 c101 c102 c103 c104 c105 c106 c107 c108 c109 c110 c111 c112 c113 c114 c115 c116 c117 c118 c119 c120 c121 c122 c123 c124 c125 c126 c127 c128 c129 c130 c131 c132 c133 c134 c135 c136 c137 c138 c139 c140 c141 c142 c143 c144 c145 c146 c147 c148 c149 c150 c151 c152 c153 c154 c155 c156 c157 c158 c159 c160 c161 c162 c163 c164 c165 c166 c167 c168 c169 c170 c171 c172 c173 c174 c175 c176 c177 c178 c179 c180 c181 c182 c183 c184 c185 c186 c187 c188 c189 c190 c191 c192 c193 c194 c195 c196 c197 c198 c199 c200 c201 c202 c203 c204 c205 c206 c207 c208 c209 c210 c211 c212 c213 c214 c215 c216 c217 c218 c219 c220 c221 c222 c223 c224 c225 c226 c227 c228 c229 c230 c231 c232 c233 c234 c235 c236 : Value}
    (hK : ∀ a x, Code.wp Tryz.prog rest16 (bodyPost Tryz.prog Tryz.f8 fun e w' => e = .returned (.bool true) ∧ Below w.heap.size w w') a x → K a x) :
    Code.wp Tryz.prog region15 (Exit.then K (bodyPost Tryz.prog Tryz.f8 fun e w' => e = .returned (.bool true) ∧ Below w.heap.size w w')) ⟨#[c0, c1, c2, c3, c4, c5, c6, c7, c8, c9, c10, c11, c12, c13, c14, c15, c16, c17, c18, c19, c20, c21, c22, c23, c24, c25, c26, c27, c28, c29, c30, c31, c32, c33, c34, c35, c36, c37, c38, c39, c40, c41, c42, c43, c44, c45, c46, c47, c48, c49, c50, c51, c52, c53, c54, c55, c56, c57, c58, c59, c60, c61, c62, c63, c64, c65, c66, c67, c68, c69, c70, c71, c72, c73, c74, c75, c76, c77, c78, c79, c80, c81, c82, c83, c84, c85, c86, c87, c88, c89, c90, c91, c92, c93, c94, c95, c96, c97, c98, c99, c100, c101, c102, c103, c104, c105, c106, c107, c108, c109, c110, c111, c112, c113, c114, c115, c116, c117, c118, c119, c120, c121, c122, c123, c124, c125, c126, c127, c128, c129, c130, c131, c132, c133, c134, c135, c136, c137, c138, c139, c140, c141, c142, c143, c144, c145, c146, c147, c148, c149, c150, c151, c152, c153, c154, c155, c156, c157, c158, c159, c160, c161, c162, c163, c164, c165, c166, c167, c168, c169, c170, c171, c172, c173, c174, c175, c176, c177, c178, c179, c180, c181, c182, c183, c184, c185, c186, c187, c188, c189, c190, c191, c192, c193, c194, c195, c196, c197, c198, c199, c200, c201, c202, c203, c204, c205, c206, c207, c208, c209, c210, c211, c212, c213, c214, c215, c216, c217, c218, c219, c220, c221, c222, c223, c224, c225, c226, c227, c228, c229, c230, c231, c232, c233, c234, c235, c236], []⟩ w0 := by
  have T1 := Lib.hid (bad_at ⟨#[57, 50, 50, 51, 51, 55, 50, 48, 51, 54, 56, 53, 52, 55, 55, 53, 56, 48, 56]⟩ 15 0 0 over (by decide) rfl)
  have T2 := Lib.hid (ok_at ⟨#[57, 50, 50, 51, 51, 55, 50, 48, 51, 54, 56, 53, 52, 55, 55, 53, 56, 48, 55, 45, 45, 32, 120]⟩ _ 2 0 most rfl (by simp))
  have T7 := Lib.hid (ok_at ⟨#[97, 46, 46, 46, 98, 60, 60, 61, 99, 126, 61, 61, 100]⟩ _ 11 0 many_signs rfl (by simp))
  have T8 := Lib.hid (ok_at ⟨#[34, 92, 34, 92, 92, 34, 32, 120]⟩ _ 3 0 esc_str rfl (by simp))
  have RN1 := Reserved_no ⟨#[69, 110, 100]⟩
  have RN2 := Reserved_no ⟨#[]⟩
  have RN1 := Lib.hid (fun w => RN1 w (by decide))
  have RN2 := Lib.hid (fun w => RN2 w (by decide))
  obtain ⟨b1, b3, bz, bq, b7, b6, l3, l7, l6, HL⟩ := big_texts
  have HL := Lib.hid HL
  have E := Lib.hid hE
  have E1 := Lib.hid (hE.below hB0)
  have HK := Lib.hid hK
  clear hK
  conv => arg 2; whnf
  go_wp2_with (go_at_call 9; with_reducible refine (T1.out _ E1.out).mono ?_; rintro e w9 ⟨f1, rfl, hF, hb⟩; have hB := hB0.trans (hb.mono hB0.size); clear hb)
  change K _ _
  refine HK.out _ _ ?_
  clear HK E1 hB0
  conv => arg 2; whnf
  have B := Lib.hid hB
  have S := Lib.hid ((Keeps.env (E.out.below hB)).and (Keeps.fault hF))
  clear hF hB
  clear hE
  obtain ⟨i9, hi, hz0, hz1, hz2⟩ := info_parts byte_info
  go_upto_region 18 with (first
    | (go_at_call 9; with_reducible refine (T2.out _ S.out.at_.1).mono ?_; rintro e w3 ⟨g2, c2, rfl, hA, hb⟩; replace B := Lib.hid (B.out.trans (hb.mono B.out.size)); replace S := Lib.hid ((S.out.below hb).and (Keeps.cells (hA.get 0 _ rfl))); clear hA hb)
    | (go_at_call 9; with_reducible refine (HL.out.t1 _ S.out.at_.1.1).mono ?_; rintro e w3 ⟨f3, rfl, hF, hb⟩; replace B := Lib.hid (B.out.trans (hb.mono B.out.size)); replace S := Lib.hid ((S.out.below hb).and (Keeps.fault hF)); clear hF hb)
    | (at_make; refine wpList_make_full _ rfl _ _ 36 rfl _ 5 i9 _ 1 Tryz.underlying36 hi hz0 hz1 .i64 .i64 32769 32769 32769 rfl rfl rfl rfl (by rw [hz2]; omega) (by unfold maxLen; omega) (Nat.le_refl _) ?_; intro wm hown hgrow; have hb := below_made hgrow; have C0 := HL.out.m1 _ _ _ hown; replace B := Lib.hid (B.out.trans (hb.mono B.out.size)); replace S := Lib.hid (S.out.below hb); clear hown hgrow hb))
  refine drawn HL _ S.out.at_.1.1.1 _ _ ?_
  intro x15 x97 x98 x99 x100 x101 x102 x103 x104 x105 x106 x107 x108 x109 x110 x111 f5 w5 hF hb
  replace B := Lib.hid (B.out.trans (hb.mono B.out.size))
  replace S := Lib.hid ((S.out.below hb).and (Keeps.fault hF))
  clear hF hb
  have z6 := HL.out.s6
  have z6a : b6.size ≤ 4096 := Nat.le_of_eq z6
  have z6b : (⟨#[34]⟩ ++ b6).size ≤ 4097 := by rw [ByteArray.size_append]; show 1 + b6.size ≤ _; omega
  go_wp2_with (first
    | (go_at_call 19; refine (HL.out.m6 _).mono ?_; rintro e w8 ⟨v6, rfl, hR⟩; have hb := hR.below; replace B := Lib.hid (B.out.trans (hb.mono B.out.size)); replace S := Lib.hid (S.out.below hb); have C6 := HL.out.v6 _ _ _ hR; clear hR hb)
    | (go_at_call 9; with_reducible refine (HL.out.t6 _ (E.out.below B.out)).mono ?_; rintro e w9 ⟨g6, c6, rfl, hK, hb⟩; replace B := Lib.hid (B.out.trans (hb.mono B.out.size)); replace S := Lib.hid ((S.out.below hb).and hK); clear hK hb)
    | (go_at_call 9; with_reducible refine (T7.out _ (E.out.below B.out)).mono ?_; rintro e w10 ⟨g7, c7, rfl, hA, hb⟩; replace B := Lib.hid (B.out.trans (hb.mono B.out.size)); replace S := Lib.hid ((S.out.below hb).and (Keeps.toks hA)); clear hA hb)
    | (go_at_call 9; with_reducible refine (T8.out _ (E.out.below B.out)).mono ?_; rintro e w11 ⟨g8, c8, rfl, hA, hb⟩; replace B := Lib.hid (B.out.trans (hb.mono B.out.size)); replace S := Lib.hid ((S.out.below hb).and (Keeps.toks hA)); clear hA hb)
    | (go_at_call 13; refine (works_true _ (E.out.below B.out)).mono ?_; rintro e w12 ⟨rfl, hb⟩; replace B := Lib.hid (B.out.trans (hb.mono B.out.size)); replace S := Lib.hid (S.out.below hb); have hs := S.out.at_.1.1.1.1.1.1.2; have TS1 := Lib.hid (told_some f1 15 0 w12 (by decide) hs.lt hs.c0 hs.c1 (E.out.below B.out).err); clear hs hb)
    | (go_at_call 11; with_reducible refine TS1.out.mono ?_; rintro e w13 ⟨rfl, hb⟩; replace B := Lib.hid (B.out.trans (hb.mono B.out.size)); replace S := Lib.hid (S.out.below hb); have hs := S.out.at_.1.1.1.1.2; have TS2 := Lib.hid (told_some f3 3 0 w13 (by decide) hs.lt hs.c0 hs.c1 (E.out.below B.out).err); have x2 := S.out.at_.1.1.1.1.1.2.c2; simp only [] at x2; clear hs hb TS1)
    | (go_at_call 11; with_reducible refine TS2.out.mono ?_; rintro e w14 ⟨rfl, hb⟩; replace B := Lib.hid (B.out.trans (hb.mono B.out.size)); replace S := Lib.hid (S.out.below hb); have hs := S.out.at_.1.1.1.2; have TS3 := Lib.hid (told_some f5 3 3 w14 (by decide) hs.lt hs.c0 hs.c1 (E.out.below B.out).err); clear hs hb TS2)
    | (go_at_call 11; with_reducible refine TS3.out.mono ?_; rintro e w15 ⟨rfl, hb⟩; replace B := Lib.hid (B.out.trans (hb.mono B.out.size)); replace S := Lib.hid (S.out.below hb); have y6 := S.out.at_.1.1.2; have k1 := (S.out.at_.1.2.get 1 _ rfl).c1; have k2 := (S.out.at_.1.2.get 2 _ rfl).c1; have k4 := (S.out.at_.1.2.get 4 _ rfl).c1; have k5 := (S.out.at_.1.2.get 5 _ rfl).c1; have k7 := (S.out.at_.1.2.get 7 _ rfl).c1; have k8 := (S.out.at_.2.get 0 _ rfl).c1; simp only [] at k1 k2 k4 k5 k7 k8; clear hb TS3)
    | (go_at_call 14; with_reducible refine (RN1.out _).mono ?_; rintro e w16 ⟨rfl, hq⟩; obtain rfl := hq.symm)
    | (go_at_call 14; with_reducible refine (RN2.out _).mono ?_; rintro e w17 ⟨rfl, hq⟩; obtain rfl := hq.symm))
  go_ret
  exact ⟨rfl, B.out⟩
end Go.Proofs.YteoccfmhpakplaaGreatDoor.lexKnown
