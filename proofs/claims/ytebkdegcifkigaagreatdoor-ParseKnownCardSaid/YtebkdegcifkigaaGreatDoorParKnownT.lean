/- ParseKnown's tail: expressions, what is wrong, things within one another. -/
import Derived.Test.YtebkdegcifkigaaGreatDoorParFrame
import Derived.Test.YtebkdegcifkigaaGreatDoorParKnownN
import Derived.BigQuiet
import Derived.Deep.CutRange
namespace Go.Proofs.YtebkdegcifkigaaGreatDoor.parseKnown
set_option maxRecDepth 20000
open Go.RowKit Go.Proofs.YtebkdegcifkigaaGreatDoor.P5

/-- Does a statement begin with that region? -/
def begins (n : Nat) : Code → Bool
  | .region id _ _ => id == n
  | .seq a _ => begins n a
  | _ => false
/-- The statements from a region on. -/
def fromR (n : Nat) : Code → Option Code
  | .seq a b => if begins n a then some (.seq a b) else fromR n b
  | .region id ops d => if id == n then some (.region id ops d) else none
  | _ => none
def headC : Code → Code
  | .seq a _ => a
  | c => c
def sndC : Code → Code
  | .seq _ b => b
  | c => c
noncomputable def region9 : Code := headC (headC ((Tryz.f6.body.bind (fromR 9)).getD .skip))
noncomputable def cond9 : Code := sndC (headC ((Tryz.f6.body.bind (fromR 9)).getD .skip))
noncomputable def rest10 : Code := sndC ((Tryz.f6.body.bind (fromR 9)).getD .skip)
set_option maxHeartbeats 40000000 in
set_option linter.unusedVariables false in
theorem tail (w w0 : World) (hE : Env4 w0) (hB : Below w.heap.size w w0) (K2 K : Act → World → Prop) {c0 c1 c2 c3 c4 c5 c6 c7 c8 c9 c10 c11 c12 c13 c14 c15 c16 c17 c18 c19 c20 c21 c22 c23 c24 c25 c26 c27 c28 c29 c30 c31 c32 c33 c34 c35 c36 c37 c38 c39 c40 c41 c42 c43 c44 c45 c46 c47 c48 c49 c50 c51 c52 c53 c54 c55 c56 c57 c58 c59 c60 c61 c62 c63 c64 c65 c66 c67 c68 c69 c70 c71 c72 c73 c74 c75 c76 c77 c78 c79 c80 c81 c82 c83 c84 c85 c86 c87 c88 c89 c90 c91 c92 c93 c94 c95 c96 c97 c98 c99 c100 c101 c102 c103 c104 c105 c106 c107 c108 c109 c110 c111 c112 c113 c114 c115 c116 c117 c118 c119 c120 c121 c122 c123 c124 c125 c126 c127 c128 c129 c130 c131 c132 c133 c134 c135 c136 c137 c138 c139 c140 c141 c142 c143 c144 c145 c146 c147 c148 c149 c150 c151 c152 c153 c154 c155 c156 c157 c158 c159 c160 c161 c162 c163 c164 c165 c166 c167 c168 c169 c170 c171 c172 c173 c174 c175 c176 c177 c178 c179 c180 c181 c182 c183 c184 c185 c186 c187 c188 c189 c190 c191 c192 c193 c194 c195 c196 c197 c198 c199 c200 c201 c202 c203 c204 c205 c206 c207 c208 c209 c210 c211 c212 c213 c214 c215 c216 c217 c218 c219 c220 c221 c222 c223 c224 c225 c226 c227 c228 c229 c230 c231 c232 c233 c234 c235 c236 c237 c238 c239 c240 c241 c242 c243 c244 c245 c246 c247 c248 c249 c250 c251 c252 c253 c254 c255 c256 c257 c258 c259 c260 c261 c262 c263 c264 c265 c266 c267 c268 c269 c270 c271 c272 c273 c274 c275 c276 c277 c278 c279 c280 c281 c282 c283 c284 c285 c286 c287 c288 c289 c290 c291 c292 c293 c294 c295 c296 c297 c298 c299 c300 c301 c302 c303 c304 c305 c306 c307 c308 c309 c310 c311 c312 c313 c314 c315 c316 c317 c318 c319 c320 c321 c322 c323 c324 c325 c326 c327 c328 c329 c330 c331 c332 c333 c334 c335 c336 c337 c338 c339 c340 c341 c342 c343 c344 c345 c346 c347 c348 c349 c350 c351 c352 c353 c354 c355 c356 c357 c358 c359 c360 c361 c362 c363 c364 c365 c366 c367 c368 c369 c370 c371 c372 c373 c374 c375 c376 c377 c378 c379 c380 c381 : Value}
    (hK2 : ∀ a x, Code.wp Tryz.prog cond9 (Exit.then K (bodyPost Tryz.prog Tryz.f6 fun e w' => e = .returned (.bool true) ∧ Below w.heap.size w w')) a x → K2 a x) (hK : ∀ a x, Code.wp Tryz.prog rest10 (bodyPost Tryz.prog Tryz.f6 fun e w' => e = .returned (.bool true) ∧ Below w.heap.size w w') a x → K a x) :
    Code.wp Tryz.prog region9 (Exit.then K2 (Exit.then K (bodyPost Tryz.prog Tryz.f6 fun e w' => e = .returned (.bool true) ∧ Below w.heap.size w w'))) ⟨#[c0, c1, c2, c3, c4, c5, c6, c7, c8, c9, c10, c11, c12, c13, c14, c15, c16, c17, c18, c19, c20, c21, c22, c23, c24, c25, c26, c27, c28, c29, c30, c31, c32, c33, c34, c35, c36, c37, c38, c39, c40, c41, c42, c43, c44, c45, c46, c47, c48, c49, c50, c51, c52, c53, c54, c55, c56, c57, c58, c59, c60, c61, c62, c63, c64, c65, c66, c67, c68, c69, c70, c71, c72, c73, c74, c75, c76, c77, c78, c79, c80, c81, c82, c83, c84, c85, c86, c87, c88, c89, c90, c91, c92, c93, c94, c95, c96, c97, c98, c99, c100, c101, c102, c103, c104, c105, c106, c107, c108, c109, c110, c111, c112, c113, c114, c115, c116, c117, c118, c119, c120, c121, c122, c123, c124, c125, c126, c127, c128, c129, c130, c131, c132, c133, c134, c135, c136, c137, c138, c139, c140, c141, c142, c143, c144, c145, c146, c147, c148, c149, c150, c151, c152, c153, c154, c155, c156, c157, c158, c159, c160, c161, c162, c163, c164, c165, c166, c167, c168, c169, c170, c171, c172, c173, c174, c175, c176, c177, c178, c179, c180, c181, c182, c183, c184, c185, c186, c187, c188, c189, c190, c191, c192, c193, c194, c195, c196, c197, c198, c199, c200, c201, c202, c203, c204, c205, c206, c207, c208, c209, c210, c211, c212, c213, c214, c215, c216, c217, c218, c219, c220, c221, c222, c223, c224, c225, c226, c227, c228, c229, c230, c231, c232, c233, c234, c235, c236, c237, c238, c239, c240, c241, c242, c243, c244, c245, c246, c247, c248, c249, c250, c251, c252, c253, c254, c255, c256, c257, c258, c259, c260, c261, c262, c263, c264, c265, c266, c267, c268, c269, c270, c271, c272, c273, c274, c275, c276, c277, c278, c279, c280, c281, c282, c283, c284, c285, c286, c287, c288, c289, c290, c291, c292, c293, c294, c295, c296, c297, c298, c299, c300, c301, c302, c303, c304, c305, c306, c307, c308, c309, c310, c311, c312, c313, c314, c315, c316, c317, c318, c319, c320, c321, c322, c323, c324, c325, c326, c327, c328, c329, c330, c331, c332, c333, c334, c335, c336, c337, c338, c339, c340, c341, c342, c343, c344, c345, c346, c347, c348, c349, c350, c351, c352, c353, c354, c355, c356, c357, c358, c359, c360, c361, c362, c363, c364, c365, c366, c367, c368, c369, c370, c371, c372, c373, c374, c375, c376, c377, c378, c379, c380, c381], []⟩ w0 := by
  have T0 := Lib.hid (fun w hE => expr_at ⟨#[102, 40, 120, 41, 46, 121, 91, 97, 93, 40, 34, 115, 34, 41]⟩ _ _ rfl ex0 (by decide) (by decide) w hE)
  have T1 := Lib.hid (fun w hE => expr_at ⟨#[40, 97, 41]⟩ _ _ rfl ex1 (by decide) (by decide) w hE)
  have T2 := Lib.hid (fun w hE => expr_at ⟨#[97, 32, 46, 46, 32, 98, 32, 43, 32, 99, 32, 46, 46, 32, 100]⟩ _ _ rfl ex2 (by decide) (by decide) w hE)
  have T3 := Lib.hid (fun w hE => expr_at ⟨#[97, 32, 60, 32, 98, 32, 61, 61, 32, 99]⟩ _ _ rfl ex3 (by decide) (by decide) w hE)
  have T4 := Lib.hid (fun w hE => expr_at ⟨#[45, 32, 97, 32, 46, 46, 32, 45, 32, 98]⟩ _ _ rfl ex4 (by decide) (by decide) w hE)
  have T5 := Lib.hid (fun w hE => expr_at ⟨#[40, 97, 32, 111, 114, 32, 98, 41, 32, 97, 110, 100, 32, 99]⟩ _ _ rfl ex5 (by decide) (by decide) w hE)
  have T6 := Lib.hid (fun w hE => expr_at ⟨#[123, 125]⟩ _ _ rfl ex6 (by decide) (by decide) w hE)
  have T7 := Lib.hid (fun w hE => expr_at ⟨#[102, 117, 110, 99, 116, 105, 111, 110, 40, 41, 32, 101, 110, 100]⟩ _ _ rfl ex7 (by decide) (by decide) w hE)
  have T8 := Lib.hid (fun w hE => expr_at ⟨#[40, 102, 41, 40, 41]⟩ _ _ rfl ex8 (by decide) (by decide) w hE)
  have E := Lib.hid hE
  have B := Lib.hid hB
  have HK := Lib.hid hK
  have HK2 := Lib.hid hK2
  clear hK hK2 hE hB
  conv => arg 2; whnf
  go_wp2_with (first
    | (go_at_call 14; (with_reducible refine (T0.out _ E.out).mono ?_); rintro e w2 ⟨v, rfl, h, hb⟩; obtain ⟨g, rfl⟩ := h.ptr; have H := Lib.hid h; replace E := Lib.hid (E.out.below hb); replace B := Lib.hid (B.out.trans (hb.mono B.out.size)); clear h hb)
    | (go_at_call 14; (with_reducible refine (T1.out _ E.out).mono ?_); rintro e w2 ⟨v, rfl, h, hb⟩; obtain ⟨g, rfl⟩ := h.ptr; have H := Lib.hid h; replace E := Lib.hid (E.out.below hb); replace B := Lib.hid (B.out.trans (hb.mono B.out.size)); clear h hb)
    | (go_at_call 14; (with_reducible refine (T2.out _ E.out).mono ?_); rintro e w2 ⟨v, rfl, h, hb⟩; obtain ⟨g, rfl⟩ := h.ptr; have H := Lib.hid h; replace E := Lib.hid (E.out.below hb); replace B := Lib.hid (B.out.trans (hb.mono B.out.size)); clear h hb)
    | (go_at_call 14; (with_reducible refine (T3.out _ E.out).mono ?_); rintro e w2 ⟨v, rfl, h, hb⟩; obtain ⟨g, rfl⟩ := h.ptr; have H := Lib.hid h; replace E := Lib.hid (E.out.below hb); replace B := Lib.hid (B.out.trans (hb.mono B.out.size)); clear h hb)
    | (go_at_call 14; (with_reducible refine (T4.out _ E.out).mono ?_); rintro e w2 ⟨v, rfl, h, hb⟩; obtain ⟨g, rfl⟩ := h.ptr; have H := Lib.hid h; replace E := Lib.hid (E.out.below hb); replace B := Lib.hid (B.out.trans (hb.mono B.out.size)); clear h hb)
    | (go_at_call 14; (with_reducible refine (T5.out _ E.out).mono ?_); rintro e w2 ⟨v, rfl, h, hb⟩; obtain ⟨g, rfl⟩ := h.ptr; have H := Lib.hid h; replace E := Lib.hid (E.out.below hb); replace B := Lib.hid (B.out.trans (hb.mono B.out.size)); clear h hb)
    | (go_at_call 14; (with_reducible refine (T6.out _ E.out).mono ?_); rintro e w2 ⟨v, rfl, h, hb⟩; obtain ⟨g, rfl⟩ := h.ptr; have H := Lib.hid h; replace E := Lib.hid (E.out.below hb); replace B := Lib.hid (B.out.trans (hb.mono B.out.size)); clear h hb)
    | (go_at_call 14; (with_reducible refine (T7.out _ E.out).mono ?_); rintro e w2 ⟨v, rfl, h, hb⟩; obtain ⟨g, rfl⟩ := h.ptr; have H := Lib.hid h; replace E := Lib.hid (E.out.below hb); replace B := Lib.hid (B.out.trans (hb.mono B.out.size)); clear h hb)
    | (go_at_call 14; (with_reducible refine (T8.out _ E.out).mono ?_); rintro e w2 ⟨v, rfl, h, hb⟩; obtain ⟨g, rfl⟩ := h.ptr; have H := Lib.hid h; replace E := Lib.hid (E.out.below hb); replace B := Lib.hid (B.out.trans (hb.mono B.out.size)); clear h hb)
    | (go_at_call 16; (with_reducible refine (H.out.says _ (Below.refl _ _)).mono ?_); rintro e w3 ⟨rfl, m, rfl⟩; replace E := Lib.hid (env_drewN E.out m); replace B := Lib.hid (below_drewN B.out m)))
  change K2 _ _
  refine HK2.out _ _ ?_
  clear HK2
  conv => arg 2; whnf
  go_wp2_with fail
  change K _ _
  refine HK.out _ _ ?_
  clear HK
  clear T0 T1 T2 T3 T4 T5 T6 T7 T8
  conv => arg 2; whnf
  generalize World.drewN _ _ = w4 at E B ⊢
  have HT := Lib.hid (texts_of (n := 34) (f := bdT) w4 #[.string ⟨#[40, 97, 41, 32, 61, 32, 49]⟩, .string ⟨#[102]⟩, .string ⟨#[114, 101, 116, 117, 114, 110, 32, 49, 32, 50]⟩, .string ⟨#[108, 111, 99, 97, 108, 32, 49]⟩, .string ⟨#[123, 125, 32, 61, 32, 50]⟩, .string ⟨#[102, 40, 41, 32, 61, 32, 49]⟩, .string ⟨#[97, 46, 98]⟩, .string ⟨#[40, 102, 40, 41, 41]⟩, .string ⟨#[49, 32, 61, 32, 50]⟩, .string ⟨#[101, 110, 100]⟩, .string ⟨#[105, 102, 32, 97, 32, 116, 104, 101, 110]⟩, .string ⟨#[120, 32, 61, 32]⟩, .string ⟨#[120, 32, 61, 32, 40, 49]⟩, .string ⟨#[102, 40, 97, 44, 41]⟩, .string ⟨#[102, 40, 44, 41]⟩, .string ⟨#[116, 32, 61, 32, 123, 49, 44, 125]⟩, .string ⟨#[116, 32, 61, 32, 123, 44, 125]⟩, .string ⟨#[116, 32, 61, 32, 123, 91, 49, 93, 32, 50, 125]⟩, .string ⟨#[102, 117, 110, 99, 116, 105, 111, 110, 32, 102, 40, 97, 44, 41, 32, 101, 110, 100]⟩, .string ⟨#[102, 117, 110, 99, 116, 105, 111, 110, 32, 40, 97, 41, 32, 101, 110, 100]⟩, .string ⟨#[108, 111, 99, 97, 108, 32, 102, 117, 110, 99, 116, 105, 111, 110, 40, 41, 32, 101, 110, 100]⟩, .string ⟨#[102, 111, 114, 32, 105, 32, 61, 32, 49, 32, 100, 111, 32, 101, 110, 100]⟩, .string ⟨#[119, 104, 105, 108, 101, 32, 97, 32, 101, 110, 100]⟩, .string ⟨#[116, 114, 121, 32, 97, 40, 41, 32, 101, 110, 100]⟩, .string ⟨#[114, 101, 116, 117, 114, 110, 32, 114, 101, 116, 117, 114, 110]⟩, .string ⟨#[120, 32, 61, 32, 97, 32, 98, 32, 61, 32, 50, 32, 99]⟩, .string ⟨#[98, 114, 101, 97, 107, 32, 49]⟩, .string ⟨#[97, 44, 32, 98, 32, 61, 32, 49]⟩, .string ⟨#[100, 111, 32, 108, 111, 99, 97, 108, 32, 101, 110, 100, 32, 101, 110, 100]⟩, .string ⟨#[120, 32, 61, 32, 110, 111, 116]⟩, .string ⟨#[120, 32, 61, 32, 49, 32, 43]⟩, .string ⟨#[120, 32, 61, 32, 97, 46, 49]⟩, .string ⟨#[120, 32, 61, 32, 97, 46, 101, 110, 100]⟩, .string ⟨#[101, 108, 115, 101, 105, 102]⟩] 9 rfl)
  have HE := Lib.hid (E.out.below ((Below.refl _ _).alloc (Nat.le_refl _) (.cells #[.string ⟨#[40, 97, 41, 32, 61, 32, 49]⟩, .string ⟨#[102]⟩, .string ⟨#[114, 101, 116, 117, 114, 110, 32, 49, 32, 50]⟩, .string ⟨#[108, 111, 99, 97, 108, 32, 49]⟩, .string ⟨#[123, 125, 32, 61, 32, 50]⟩, .string ⟨#[102, 40, 41, 32, 61, 32, 49]⟩, .string ⟨#[97, 46, 98]⟩, .string ⟨#[40, 102, 40, 41, 41]⟩, .string ⟨#[49, 32, 61, 32, 50]⟩, .string ⟨#[101, 110, 100]⟩, .string ⟨#[105, 102, 32, 97, 32, 116, 104, 101, 110]⟩, .string ⟨#[120, 32, 61, 32]⟩, .string ⟨#[120, 32, 61, 32, 40, 49]⟩, .string ⟨#[102, 40, 97, 44, 41]⟩, .string ⟨#[102, 40, 44, 41]⟩, .string ⟨#[116, 32, 61, 32, 123, 49, 44, 125]⟩, .string ⟨#[116, 32, 61, 32, 123, 44, 125]⟩, .string ⟨#[116, 32, 61, 32, 123, 91, 49, 93, 32, 50, 125]⟩, .string ⟨#[102, 117, 110, 99, 116, 105, 111, 110, 32, 102, 40, 97, 44, 41, 32, 101, 110, 100]⟩, .string ⟨#[102, 117, 110, 99, 116, 105, 111, 110, 32, 40, 97, 41, 32, 101, 110, 100]⟩, .string ⟨#[108, 111, 99, 97, 108, 32, 102, 117, 110, 99, 116, 105, 111, 110, 40, 41, 32, 101, 110, 100]⟩, .string ⟨#[102, 111, 114, 32, 105, 32, 61, 32, 49, 32, 100, 111, 32, 101, 110, 100]⟩, .string ⟨#[119, 104, 105, 108, 101, 32, 97, 32, 101, 110, 100]⟩, .string ⟨#[116, 114, 121, 32, 97, 40, 41, 32, 101, 110, 100]⟩, .string ⟨#[114, 101, 116, 117, 114, 110, 32, 114, 101, 116, 117, 114, 110]⟩, .string ⟨#[120, 32, 61, 32, 97, 32, 98, 32, 61, 32, 50, 32, 99]⟩, .string ⟨#[98, 114, 101, 97, 107, 32, 49]⟩, .string ⟨#[97, 44, 32, 98, 32, 61, 32, 49]⟩, .string ⟨#[100, 111, 32, 108, 111, 99, 97, 108, 32, 101, 110, 100, 32, 101, 110, 100]⟩, .string ⟨#[120, 32, 61, 32, 110, 111, 116]⟩, .string ⟨#[120, 32, 61, 32, 49, 32, 43]⟩, .string ⟨#[120, 32, 61, 32, 97, 46, 49]⟩, .string ⟨#[120, 32, 61, 32, 97, 46, 101, 110, 100]⟩, .string ⟨#[101, 108, 115, 101, 105, 102]⟩] 9)))
  have HB := Lib.hid (B.out.alloc B.out.size (.cells #[.string ⟨#[40, 97, 41, 32, 61, 32, 49]⟩, .string ⟨#[102]⟩, .string ⟨#[114, 101, 116, 117, 114, 110, 32, 49, 32, 50]⟩, .string ⟨#[108, 111, 99, 97, 108, 32, 49]⟩, .string ⟨#[123, 125, 32, 61, 32, 50]⟩, .string ⟨#[102, 40, 41, 32, 61, 32, 49]⟩, .string ⟨#[97, 46, 98]⟩, .string ⟨#[40, 102, 40, 41, 41]⟩, .string ⟨#[49, 32, 61, 32, 50]⟩, .string ⟨#[101, 110, 100]⟩, .string ⟨#[105, 102, 32, 97, 32, 116, 104, 101, 110]⟩, .string ⟨#[120, 32, 61, 32]⟩, .string ⟨#[120, 32, 61, 32, 40, 49]⟩, .string ⟨#[102, 40, 97, 44, 41]⟩, .string ⟨#[102, 40, 44, 41]⟩, .string ⟨#[116, 32, 61, 32, 123, 49, 44, 125]⟩, .string ⟨#[116, 32, 61, 32, 123, 44, 125]⟩, .string ⟨#[116, 32, 61, 32, 123, 91, 49, 93, 32, 50, 125]⟩, .string ⟨#[102, 117, 110, 99, 116, 105, 111, 110, 32, 102, 40, 97, 44, 41, 32, 101, 110, 100]⟩, .string ⟨#[102, 117, 110, 99, 116, 105, 111, 110, 32, 40, 97, 41, 32, 101, 110, 100]⟩, .string ⟨#[108, 111, 99, 97, 108, 32, 102, 117, 110, 99, 116, 105, 111, 110, 40, 41, 32, 101, 110, 100]⟩, .string ⟨#[102, 111, 114, 32, 105, 32, 61, 32, 49, 32, 100, 111, 32, 101, 110, 100]⟩, .string ⟨#[119, 104, 105, 108, 101, 32, 97, 32, 101, 110, 100]⟩, .string ⟨#[116, 114, 121, 32, 97, 40, 41, 32, 101, 110, 100]⟩, .string ⟨#[114, 101, 116, 117, 114, 110, 32, 114, 101, 116, 117, 114, 110]⟩, .string ⟨#[120, 32, 61, 32, 97, 32, 98, 32, 61, 32, 50, 32, 99]⟩, .string ⟨#[98, 114, 101, 97, 107, 32, 49]⟩, .string ⟨#[97, 44, 32, 98, 32, 61, 32, 49]⟩, .string ⟨#[100, 111, 32, 108, 111, 99, 97, 108, 32, 101, 110, 100, 32, 101, 110, 100]⟩, .string ⟨#[120, 32, 61, 32, 110, 111, 116]⟩, .string ⟨#[120, 32, 61, 32, 49, 32, 43]⟩, .string ⟨#[120, 32, 61, 32, 97, 46, 49]⟩, .string ⟨#[120, 32, 61, 32, 97, 46, 101, 110, 100]⟩, .string ⟨#[101, 108, 115, 101, 105, 102]⟩] 9))
  clear E B
  go_wp2_with fail
  generalize (w4.alloc (.cells #[.string ⟨#[40, 97, 41, 32, 61, 32, 49]⟩, .string ⟨#[102]⟩, .string ⟨#[114, 101, 116, 117, 114, 110, 32, 49, 32, 50]⟩, .string ⟨#[108, 111, 99, 97, 108, 32, 49]⟩, .string ⟨#[123, 125, 32, 61, 32, 50]⟩, .string ⟨#[102, 40, 41, 32, 61, 32, 49]⟩, .string ⟨#[97, 46, 98]⟩, .string ⟨#[40, 102, 40, 41, 41]⟩, .string ⟨#[49, 32, 61, 32, 50]⟩, .string ⟨#[101, 110, 100]⟩, .string ⟨#[105, 102, 32, 97, 32, 116, 104, 101, 110]⟩, .string ⟨#[120, 32, 61, 32]⟩, .string ⟨#[120, 32, 61, 32, 40, 49]⟩, .string ⟨#[102, 40, 97, 44, 41]⟩, .string ⟨#[102, 40, 44, 41]⟩, .string ⟨#[116, 32, 61, 32, 123, 49, 44, 125]⟩, .string ⟨#[116, 32, 61, 32, 123, 44, 125]⟩, .string ⟨#[116, 32, 61, 32, 123, 91, 49, 93, 32, 50, 125]⟩, .string ⟨#[102, 117, 110, 99, 116, 105, 111, 110, 32, 102, 40, 97, 44, 41, 32, 101, 110, 100]⟩, .string ⟨#[102, 117, 110, 99, 116, 105, 111, 110, 32, 40, 97, 41, 32, 101, 110, 100]⟩, .string ⟨#[108, 111, 99, 97, 108, 32, 102, 117, 110, 99, 116, 105, 111, 110, 40, 41, 32, 101, 110, 100]⟩, .string ⟨#[102, 111, 114, 32, 105, 32, 61, 32, 49, 32, 100, 111, 32, 101, 110, 100]⟩, .string ⟨#[119, 104, 105, 108, 101, 32, 97, 32, 101, 110, 100]⟩, .string ⟨#[116, 114, 121, 32, 97, 40, 41, 32, 101, 110, 100]⟩, .string ⟨#[114, 101, 116, 117, 114, 110, 32, 114, 101, 116, 117, 114, 110]⟩, .string ⟨#[120, 32, 61, 32, 97, 32, 98, 32, 61, 32, 50, 32, 99]⟩, .string ⟨#[98, 114, 101, 97, 107, 32, 49]⟩, .string ⟨#[97, 44, 32, 98, 32, 61, 32, 49]⟩, .string ⟨#[100, 111, 32, 108, 111, 99, 97, 108, 32, 101, 110, 100, 32, 101, 110, 100]⟩, .string ⟨#[120, 32, 61, 32, 110, 111, 116]⟩, .string ⟨#[120, 32, 61, 32, 49, 32, 43]⟩, .string ⟨#[120, 32, 61, 32, 97, 46, 49]⟩, .string ⟨#[120, 32, 61, 32, 97, 46, 101, 110, 100]⟩, .string ⟨#[101, 108, 115, 101, 105, 102]⟩] 9)) = w5 at HT HE HB ⊢
  generalize w4.heap.size = tb at HT ⊢
  go_loopw [7, 8, 328] (fun _ _ i wr => ∃ k : Nat, k ≤ 34 ∧ i = iV k ∧ Hid (TextsAt wr tb 34 bdT) ∧ Hid (Env4 wr) ∧ Hid (Below w.heap.size w wr)) (fun _ _ i _ => 34 - (intOf i).toNat)
  case atStart => exact ⟨0, by omega, rfl, HT, HE, HB⟩
  case round =>
    obtain ⟨k, hk, rfl, HT2, HE2, HB2⟩ := hrel
    clear HT HE HB
    by_cases hlt : k < 34
    · have c0 := HT2.out.cell k hlt
      have T := Lib.hid (fun w hE => told_any 300 (by decide) (bdT k) 4 0 4 0 true (bd_at hlt) (by decide) w hE)
      have k0 : (0 : Int) ≤ (k : Int) := by omega
      have k1 : (k : Int) < (34 : Int) := by omega
      generalize bdT k = t at c0 T
      go_wp2_with (go_at_call 19; (with_reducible refine (T.out _ HE2.out).mono ?_); rintro e w2 ⟨rfl, hb⟩; replace HT2 := Lib.hid (HT2.out.below hb); replace HE2 := Lib.hid (HE2.out.below hb); replace HB2 := Lib.hid (HB2.out.trans (hb.mono HB2.out.size)); clear c0 hb)
      go_roundw
      case rel => exact ⟨k + 1, by omega, by go_num, HT2, HE2, HB2⟩
      case measure => simp [intOf]; omega
    · have ql : decide ((k : Int) < 34) = false := decide_eq_false (by omega)
      clear hlt HT2
      have Y0 := Lib.hid (fun w hE => told_any 300 (by decide) ⟨#[97, 32, 61, 32, 49, 10, 98, 32, 61, 32, 10, 10]⟩ 4 3 4 3 true to0 (by decide) w hE)
      have Y1 := Lib.hid (fun w hE => told_any 300 (by decide) ⟨#[97, 10, 61, 32, 49, 10, 49]⟩ 4 2 4 2 true to1 (by decide) w hE)
      have Y2 := Lib.hid (fun w hE => told_any 300 (by decide) ⟨#[97, 32, 61, 32, 36]⟩ 14 0 14 0 true to2 (by decide) w hE)
      have Y3 := Lib.hid (fun w hE => told_any 300 (by decide) ⟨#[102, 40, 10, 10, 49, 32, 50, 41]⟩ 4 2 4 2 true to3 (by decide) w hE)
      go_wp2_with (first
        | (go_at_call 19; (with_reducible refine (Y0.out _ HE2.out).mono ?_); rintro e w2 ⟨rfl, hb⟩; replace HE2 := Lib.hid (HE2.out.below hb); replace HB2 := Lib.hid (HB2.out.trans (hb.mono HB2.out.size)); clear hb)
        | (go_at_call 19; (with_reducible refine (Y1.out _ HE2.out).mono ?_); rintro e w2 ⟨rfl, hb⟩; replace HE2 := Lib.hid (HE2.out.below hb); replace HB2 := Lib.hid (HB2.out.trans (hb.mono HB2.out.size)); clear hb)
        | (go_at_call 19; (with_reducible refine (Y2.out _ HE2.out).mono ?_); rintro e w2 ⟨rfl, hb⟩; replace HE2 := Lib.hid (HE2.out.below hb); replace HB2 := Lib.hid (HB2.out.trans (hb.mono HB2.out.size)); clear hb)
        | (go_at_call 19; (with_reducible refine (Y3.out _ HE2.out).mono ?_); rintro e w2 ⟨rfl, hb⟩; replace HE2 := Lib.hid (HE2.out.below hb); replace HB2 := Lib.hid (HB2.out.trans (hb.mono HB2.out.size)); clear hb))
      go_loopw [9, 10, 11] (fun a b i wr => ∃ j : Nat, j ≤ 64 ∧ i = iV j ∧ (∃ u1 : ByteArray, a = .string u1 ∧ u1.size ≤ 64 ∧ Hid (u1.data.toList = List.replicate j 40)) ∧ (∃ u2 : ByteArray, b = .string u2 ∧ u2.size ≤ 64 ∧ Hid (u2.data.toList = List.replicate j 41)) ∧ Hid (Env4 wr) ∧ Hid (Below w.heap.size w wr)) (fun _ _ i _ => 64 - (intOf i).toNat)
      case atStart => exact ⟨0, by omega, rfl, ⟨_, rfl, by decide, Lib.hid rfl⟩, ⟨_, rfl, by decide, Lib.hid rfl⟩, HE2, HB2⟩
      case round =>
        obtain ⟨j, hj, rfl, ⟨u1, rfl, _, hu1⟩, ⟨u2, rfl, _, hu2⟩, HE3, HB3⟩ := hrel
        clear HE2 HB2
        have z1 : u1.size = j := by rw [← size_toList, hu1.out, List.length_replicate]
        have z2 : u2.size = j := by rw [← size_toList, hu2.out, List.length_replicate]
        by_cases hjt : j < 64
        · have n1 : ¬ 9223372036854775807 < u1.size + 1 := by omega
          have n2 : ¬ 9223372036854775807 < u2.size + 1 := by omega
          have FIN := Lib.hid (show (u1 ++ ⟨#[40]⟩).size ≤ 64 ∧ (u1 ++ ⟨#[40]⟩).data.toList = List.replicate (j + 1) 40 ∧ (u2 ++ ⟨#[41]⟩).size ≤ 64 ∧ (u2 ++ ⟨#[41]⟩).data.toList = List.replicate (j + 1) 41 from by
            rw [Joins.data_append, Joins.data_append, hu1.out, hu2.out, ByteArray.size_append, ByteArray.size_append, List.replicate_succ', List.replicate_succ']
            exact ⟨by show u1.size + 1 ≤ 64; omega, rfl, by show u2.size + 1 ≤ 64; omega, rfl⟩)
          clear z1 z2 hu1 hu2
          go_wp2_with fail
          go_roundw
          case rel => exact ⟨j + 1, by omega, by go_num, ⟨_, rfl, FIN.out.1, Lib.hid FIN.out.2.1⟩, ⟨_, rfl, FIN.out.2.2.1, Lib.hid FIN.out.2.2.2⟩, HE3, HB3⟩
          case measure => simp [intOf]; omega
        · have ql2 : decide ((j : Int) < 64) = false := decide_eq_false (by omega)
          obtain rfl : j = 64 := by omega
          have X1 := Lib.hid (fun w hE => expr_shape 1000 (by decide) (u1 ++ ⟨#[97]⟩ ++ u2) [97] (by rw [Joins.data_append, Joins.data_append, hu1.out, hu2.out]; exact deep_ok) (by decide) (by rw [ByteArray.size_append, ByteArray.size_append, z1, z2]; decide) w hE)
          have X2 := Lib.hid (fun w hE => told_any 1000 (by decide) (⟨#[114, 101, 116, 117, 114, 110, 10, 40]⟩ ++ u1 ++ ⟨#[97]⟩) 3 1 3 1 true (by rw [Joins.data_append, Joins.data_append, hu1.out]; exact deep_long) (by decide) w hE)
          have X3 := Lib.hid (fun w hE => told_any 1000 (by decide) (⟨#[114, 101, 116, 117, 114, 110, 32]⟩ ++ u1) 4 0 3 0 false (by rw [Joins.data_append, hu1.out]; exact deep_form) (by decide) w hE)
          have n1 : ¬ 9223372036854775807 < u1.size + 1 := by omega
          have n2 : ¬ 9223372036854775807 < u1.size + 1 + u2.size := by omega
          have n3 : ¬ 9223372036854775807 < 8 + u1.size := by omega
          have n4 : ¬ 9223372036854775807 < 8 + u1.size + 1 := by omega
          have n5 : ¬ 9223372036854775807 < 7 + u1.size := by omega
          clear hjt hu1 hu2 z1 z2
          go_wp2_with (first
            | (go_at_call 14; (with_reducible refine (X1.out _ HE3.out).mono ?_); rintro e w6 ⟨v, rfl, h, hb⟩; obtain ⟨g6, rfl⟩ := h.ptr; replace HE3 := Lib.hid (HE3.out.below hb); replace HB3 := Lib.hid (HB3.out.trans (hb.mono HB3.out.size)); clear h hb)
            | (go_at_call 19; (with_reducible refine (X2.out _ HE3.out).mono ?_); rintro e w7 ⟨rfl, hb⟩; replace HE3 := Lib.hid (HE3.out.below hb); replace HB3 := Lib.hid (HB3.out.trans (hb.mono HB3.out.size)); clear hb)
            | (go_at_call 19; (with_reducible refine (X3.out _ HE3.out).mono ?_); rintro e w8 ⟨rfl, hb⟩; replace HE3 := Lib.hid (HE3.out.below hb); replace HB3 := Lib.hid (HB3.out.trans (hb.mono HB3.out.size)); clear hb)
            | (go_at_call 12; (with_reducible refine (works_true _ HE3.out).mono ?_); rintro e w9 ⟨rfl, hb⟩; replace HB3 := Lib.hid (HB3.out.trans (hb.mono HB3.out.size)); clear hb))
          go_ret
          exact ⟨rfl, HB3.out⟩
end Go.Proofs.YtebkdegcifkigaaGreatDoor.parseKnown
