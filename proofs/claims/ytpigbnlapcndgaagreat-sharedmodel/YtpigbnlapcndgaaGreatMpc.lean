/-
  One of the places that the walk of ShM7 leaves.
  One of the places that the walk of ShM7 leaves.
  SharedModel, walked.
-/
import Derived.Test.YtpigbnlapcndgaaGreatShM7
import Derived.Test.YtpigbnlapcndgaaGreatMpa
import Derived.Test.YtpigbnlapcndgaaGreatMpb
namespace Go.Proofs.YtpigbnlapcndgaaGreat
open Go.RowKit Go.WideShapes

set_option maxRecDepth 100000 in
set_option maxHeartbeats 20000000 in
theorem smodel_loop : smodel_cut.2.2.2.2.2.2.1 := by
  intro n c G w hcap b off HG i1 i2 i3 M0 p1 M1 p3 vS q0 q1 q2 q3 w0 hn HSZ vW w1 XF vV iv smodel_1 smodel_2 u54 u55 u56 u57 u58 u59 u60 u61 u62 u63 u64 u65 u66 u67 u68 u69 u70 u71 u72 u73 smodel_3 smodel_4 r smodel_5 smodel_6 smodel_7 smodel_8 wr smodel_9 u14 u15 u16 smodel_10 u18 smodel_11 smodel_12 smodel_13 smodel_14 smodel_15 smodel_16 smodel_17 smodel_18 smodel_19 smodel_20 smodel_21 smodel_22 smodel_23 smodel_24 smodel_25 smodel_26 smodel_27 smodel_28 smodel_29 smodel_30 smodel_31 smodel_32 smodel_33 smodel_34 smodel_35 smodel_36 smodel_37 smodel_38 smodel_39 smodel_40 smodel_41 smodel_42 smodel_43 smodel_44 smodel_45 smodel_46 smodel_47 smodel_48 smodel_49 smodel_50 smodel_51 smodel_52 smodel_53 smodel_54 smodel_55 smodel_56 smodel_57 smodel_58 smodel_59 smodel_60 smodel_61 smodel_62 smodel_63 smodel_64 smodel_65 smodel_66 smodel_67 smodel_68 smodel_69 smodel_70 smodel_71 smodel_72 smodel_73 smodel_74 smodel_75 smodel_76 smodel_77 smodel_78 smodel_79 smodel_80 smodel_81 smodel_82 smodel_83 smodel_84 smodel_85 smodel_86 smodel_87 smodel_88 smodel_89 smodel_90 smodel_91 smodel_92 smodel_93 smodel_94 smodel_95 smodel_96 smodel_97 smodel_98 smodel_99 smodel_100 smodel_101 smodel_102 smodel_103 smodel_104 smodel_105 smodel_106 smodel_107 smodel_108 smodel_109 smodel_110 smodel_111 smodel_112 smodel_113 smodel_114 smodel_115 smodel_116 smodel_117 smodel_118 smodel_119 smodel_120 smodel_121 smodel_122 smodel_123 smodel_124 smodel_125 smodel_126 smodel_127 smodel_128 smodel_129 smodel_130 smodel_131 smodel_132 smodel_133 smodel_134 smodel_135 smodel_136 smodel_137 smodel_138 smodel_139 smodel_140 smodel_141 smodel_142 smodel_143 smodel_144 smodel_145 i F st v hi hmo hv hlt hbl smodel_146 smodel_147 ti e5 x0 x1 nm hnm x3 smodel_148 smodel_149 smodel_150 k hk3 smodel_151 smodel_152 smodel_153 smodel_154 smodel_155 smodel_156 smodel_157 smodel_158 smodel_159 smodel_160 smodel_161 smodel_162 smodel_163 smodel_164 smodel_165 smodel_166 smodel_167 smodel_168 smodel_169 smodel_170 smodel_171 smodel_172 smodel_173 smodel_174 smodel_175 smodel_176 smodel_177 smodel_178 smodel_179 smodel_180 smodel_181 smodel_182 smodel_183 smodel_184 smodel_185 smodel_186 smodel_187 smodel_188 smodel_189 smodel_190 smodel_191 smodel_192 smodel_193 smodel_194 smodel_195 smodel_196 smodel_197 smodel_198 smodel_199 smodel_200 smodel_201 smodel_202 smodel_203 smodel_204 smodel_205 smodel_206 smodel_207 smodel_208 smodel_209 smodel_210 smodel_211 smodel_212 smodel_213 smodel_214 smodel_215 smodel_216 smodel_217 smodel_218 smodel_219 smodel_220 smodel_221 smodel_222 smodel_223 smodel_224 smodel_225 smodel_226 smodel_227 smodel_228 smodel_229 smodel_230 smodel_231 smodel_232 smodel_233 smodel_234 smodel_235 smodel_236 smodel_237 smodel_238 smodel_239 smodel_240 smodel_241 smodel_242 smodel_243 smodel_244 smodel_245 smodel_246 smodel_247 smodel_248 smodel_249 smodel_250 smodel_251 smodel_252 smodel_253 smodel_254 smodel_255 smodel_256 smodel_257 smodel_258 smodel_259 smodel_260 smodel_261 smodel_262 smodel_263 smodel_264 smodel_265 smodel_266 smodel_267 smodel_268 smodel_269 smodel_270 smodel_271 smodel_272 smodel_273 smodel_274 smodel_275 smodel_276 smodel_277 smodel_278 smodel_279 smodel_280 smodel_281 smodel_282 smodel_283 smodel_284 smodel_285 hvk ak ck tk HAB w2 wq u6 smodel_286 smodel_287 smodel_288 smodel_289 smodel_290 smodel_291 smodel_292 smodel_293 smodel_294 smodel_295 smodel_296 smodel_297 smodel_298 smodel_299 smodel_300 smodel_301 smodel_302 smodel_303 smodel_304 smodel_305 smodel_306 smodel_307 smodel_308 smodel_309 smodel_310 smodel_311 smodel_312 smodel_313 smodel_314 smodel_315 smodel_316 smodel_317 smodel_318 smodel_319 smodel_320 smodel_321 smodel_322 smodel_323 smodel_324 smodel_325 smodel_326 smodel_327 smodel_328 smodel_329 smodel_330 smodel_331 smodel_332 smodel_333 smodel_334 smodel_335 smodel_336 smodel_337 smodel_338 smodel_339 smodel_340 smodel_341 smodel_342 smodel_343 smodel_344 smodel_345 smodel_346 smodel_347 smodel_348 smodel_349 smodel_350 smodel_351 smodel_352 smodel_353 smodel_354 smodel_355 smodel_356 smodel_357 smodel_358 smodel_359 smodel_360 smodel_361 smodel_362 smodel_363 smodel_364 smodel_365 smodel_366 smodel_367 smodel_368 smodel_369 smodel_370 smodel_371 smodel_372 smodel_373 smodel_374 smodel_375 smodel_376 smodel_377 smodel_378 smodel_379 smodel_380 smodel_381 smodel_382 smodel_383 smodel_384 smodel_385 smodel_386 smodel_387 smodel_388 smodel_389 smodel_390 smodel_391 smodel_392 smodel_393 smodel_394 smodel_395 smodel_396 smodel_397 smodel_398 smodel_399 smodel_400 smodel_401 smodel_402 smodel_403 smodel_404 smodel_405 smodel_406 smodel_407 smodel_408 smodel_409 smodel_410 smodel_411 smodel_412 smodel_413 smodel_414 smodel_415 smodel_416 smodel_417 smodel_418 smodel_419 smodel_420 we F' st' er hmo' hrw v2 hv2 hv2' smodel_421 smodel_422 smodel_423 smodel_424 smodel_425 smodel_426 smodel_427 smodel_428 smodel_429 smodel_430 smodel_431 smodel_432 smodel_433 smodel_434 smodel_435 smodel_436 smodel_437 smodel_438 smodel_439 smodel_440 smodel_441 smodel_442 smodel_443 smodel_444 smodel_445 smodel_446 smodel_447 smodel_448 smodel_449 smodel_450 smodel_451 smodel_452 smodel_453 smodel_454 smodel_455 smodel_456 smodel_457 smodel_458 smodel_459 smodel_460 smodel_461 smodel_462 smodel_463 smodel_464 smodel_465 smodel_466 smodel_467 smodel_468 smodel_469 smodel_470 smodel_471 smodel_472 smodel_473 smodel_474 smodel_475 smodel_476 smodel_477 smodel_478 smodel_479 smodel_480 smodel_481 smodel_482 smodel_483 smodel_484 smodel_485 smodel_486 smodel_487 smodel_488 smodel_489 smodel_490 smodel_491 smodel_492 smodel_493 smodel_494 smodel_495 smodel_496 smodel_497 smodel_498 smodel_499 smodel_500 smodel_501 smodel_502 smodel_503 smodel_504 smodel_505 smodel_506 smodel_507 smodel_508 smodel_509 smodel_510 smodel_511 smodel_512 smodel_513 smodel_514 u168 smodel_515 smodel_516 smodel_517 smodel_518 smodel_519 smodel_520 smodel_521 smodel_522 smodel_523 smodel_524 smodel_525 smodel_526 smodel_527 smodel_528 smodel_529 smodel_530 smodel_531 smodel_532 smodel_533 smodel_534 smodel_535 smodel_536 smodel_537 smodel_538 smodel_539 smodel_540 smodel_541 smodel_542 smodel_543 smodel_544 smodel_545 smodel_546 smodel_547 smodel_548 smodel_549 smodel_550 smodel_551 smodel_552 smodel_553 smodel_554 za zc smodel_555 smodel_556 smodel_557 smodel_558 wc u17 u74 u75 u76 u77 u78 u79 u80 u81 u82 u83 u84 u85 u86 u87 u88 u89 u90 u91 u92 u93 u94 u95 u96 u97 u98 u99 u100 u101 u102 u103 u104 u105 u106 u107 u108 u109 u110 u111 u112 u113 u114 u115 u116 u117 u118 u119 u120 u121 u122 u123 u124 u125 u126 u127 u128 u129 u130 u131 u132 u133 u134 u135 u136 u137 u138 u139 u140 u141 u142 u143 u144 u145 u146 u147 u148 u149 u150 u151 u152 u153 u154 u155 u156 u157 u158 u159 u160 u161 u162 u163 u164 u165 u166 u167 u169 u170 u171 u172 u173 u174 u175 u176 u177 u178 u179 u180 u181 u182 u183 u184 u185 u186 u187 u188 u189 u190 u191 u192 u193 u194 u195 u196 u197 u198 u199 u200 u201 u202 u203 u204 u205 u206 u207 u208 hM6
  have HM6 := Lib.hid hM6
  clear hM6
  go_wp2_with fail
  go_loopw [18] (fun jv wj => ∃ j : Nat, j ≤ 3 ∧ jv = .int .i64 (j : Int) ∧ M3 w r F' st' v2 v2 (fun j => prsS F' (st' j)) (i + 1) wj) (fun jv _ => 3 - (intOf jv).toNat)
  case atStart => exact ⟨0, by omega, rfl, HM6.out⟩
  case round =>
    clear HM6
    obtain ⟨wj, hwj⟩ : ∃ y, y = wr := ⟨_, rfl⟩
    subst hwj
    obtain ⟨j, hj, rfl, hMj⟩ := hrel
    by_cases hj3 : j < 3
    · have tj : (j : Int) < 3 := by omega
      have tj0 : (0 : Int) ≤ (j : Int) := by omega
      have e8 : IntKind.i64.wrap ((j : Int) + 1) = ((j + 1 : Nat) : Int) := by rw [i64_small (by omega) (by omega)]; omega
      have hvj := hv2' j
      obtain ⟨pa, pc, g1, g2, g3, hrd, -⟩ := hMj.look hj3 (by omega)
      have hfw := hMj.few (by omega) hj3
      have HCP : Hid (∀ V, Below wj.heap.size wj V → Calls Tryz.prog 14 #[.pointer (some ⟨r.sp j, 0, none⟩)] V fun e w' => ∃ a1 c1, e = .returned (.slice a1 (prsS F' (st' j)).length c1) ∧ RdP w' a1 (prsS F' (st' j)) ∧ Below V.heap.size V w') := fun V hV => by
        obtain ⟨_, _, _, _, _, _, _, _, _, CP⟩ := (hMj.keep hV).look hj3 (by omega)
        refine CP.mono ?_
        rintro e w' ⟨v0, rfl, hps, hb⟩
        obtain ⟨a1, c1, rfl, h1⟩ := hps.rd
        exact ⟨a1, c1, rfl, h1, hb⟩
      have HCE : Hid (∀ V, Below wj.heap.size wj V → ∀ a1 c1, RdP V a1 (prsS F' (st' j)) → Calls Tryz.prog 13 #[.slice a1 (prsS F' (st' j)).length c1, .slice pa (prsS F' (st' j)).length pc] V fun e w' => e = .returned (.bool true) ∧ Below V.heap.size V w') := fun V hV a1 c1 h1 => by
        obtain ⟨pa', pc', _, k2, _, hrd', _⟩ := (hMj.keep hV).look hj3 (by omega)
        have k3 := k2.symm.trans (cell_keep g2 hV)
        injection k3 with k3
        injection k3 with k4 _ _
        subst k4
        exact pairs10_eq h1 hrd' (by omega)
      have HCL : Hid (∀ V, Below wj.heap.size wj V → Calls Tryz.prog 15 #[.pointer (some ⟨r.sp j, 0, none⟩)] V fun e w' => e = .returned (.int .i64 ((prsS F' (st' j)).length : Int)) ∧ Below V.heap.size V w') := fun V hV => by
        obtain ⟨_, _, _, _, _, _, _, CL, _, _⟩ := (hMj.keep hV).look hj3 (by omega)
        refine CL.mono ?_
        rintro e w' ⟨rfl, rfl⟩
        exact ⟨by rw [prs_len], Below.refl _ _⟩
      have HCV : Hid (∀ V, Below wj.heap.size wj V → Calls Tryz.prog 16 #[.pointer (some ⟨r.sp j, 0, none⟩)] V fun e w' => e = .returned (.int .i64 (v2 j : Int)) ∧ Below V.heap.size V w') := fun V hV => by
        obtain ⟨_, _, _, _, _, _, _, _, CV, _⟩ := (hMj.keep hV).look hj3 (by omega)
        refine CV.mono ?_
        rintro e w' ⟨rfl, rfl⟩
        exact ⟨rfl, Below.refl _ _⟩
      have HMj := Lib.hid hMj
      have hS : Sx wj r.gS r.gW r.gV j (r.sp j) (.slice pa (prsS F' (st' j)).length pc) (v2 j : Int) wj := ⟨⟨g1, g2, g3⟩, Below.refl _ _⟩
      clear hrd hMj g1 g2 g3
      obtain ⟨l9, hl9⟩ : ∃ l9, prsS F' (st' j) = l9 := ⟨_, rfl⟩
      rw [hl9] at HCP HCE HCL hS hfw
      obtain ⟨pl, hpl⟩ : ∃ pl, l9.length = pl := ⟨_, rfl⟩
      rw [hpl] at HCP HCE HCL hS hfw
      obtain ⟨vj, hvj9⟩ : ∃ y, v2 j = y := ⟨_, rfl⟩
      rw [hvj9] at HCV hS
      clear hl9 hpl hvj9 hvj
      go_upto_region 43 with fail
      go_region_held3 (fun V => (V.cell? ⟨r.gS, j, none⟩ = some (.pointer (some ⟨r.sp j, 0, none⟩)) ∧ V.cell? ⟨r.gW, j, none⟩ = some (.slice pa pl pc) ∧ V.cell? ⟨r.gV, j, none⟩ = some (.int .i64 (vj : Int))) ∧ Below wj.heap.size wj V)
        (first | exact hS | exact Sx.keep hS (Below.refl _ _).drew | exact Sx.keep (by assumption) (by assumption) | fail)
        (first
          | (go_at_call 14; refine (HCP.out _ (by first | exact (Below.refl _ _).drew | exact (by assumption : Sx wj r.gS r.gW r.gV j (r.sp j) (.slice pa pl pc) (vj : Int) _).2)).mono ?_; rintro e w3 ⟨a1, c1, rfl, h31, hb3⟩)
          | (go_at_call 13; refine (HCE.out _ (by first | exact (Below.refl _ _).drew | exact (by assumption : Sx wj r.gS r.gW r.gV j (r.sp j) (.slice pa pl pc) (vj : Int) _).2) _ _ (by assumption)).mono ?_; rintro e w4 ⟨rfl, hb4⟩)
          | (go_at_call 15; refine (HCL.out _ (by first | exact (Below.refl _ _).drew | exact (by assumption : Sx wj r.gS r.gW r.gV j (r.sp j) (.slice pa pl pc) (vj : Int) _).2)).mono ?_; rintro e w5 ⟨rfl, hb5⟩)
          | (go_at_call 16; refine (HCV.out _ (by first | exact (Below.refl _ _).drew | exact (by assumption : Sx wj r.gS r.gW r.gV j (r.sp j) (.slice pa pl pc) (vj : Int) _).2)).mono ?_; rintro e w6 ⟨rfl, hb6⟩)
          | fail)
      have hS6 : Sx wj r.gS r.gW r.gV j (r.sp j) (.slice pa pl pc) (vj : Int) w6 := by assumption
      have HM7 := Lib.hid (HMj.out.keep hS6.2)
      clear hS6 hS HMj
      go_wp2_with fail
      go_roundw
      case rel => exact ⟨j + 1, by omega, rfl, HM7.out⟩
      case measure => simp [intOf]; omega
    · have tj : ¬ (j : Int) < 3 := by omega
      have HMj := Lib.hid hMj
      have HEND := Lib.hid (And.intro hmo' hv2')
      clear hMj
      go_wp2_with fail
      go_roundw
      case rel =>
        first
        | exact ⟨i + 1, F', st', v2, by omega, rfl, HEND.out.1, HEND.out.2, HMj.out⟩
        | (refine ⟨_, _, _, _, _, _, ⟨i + 1, F', st', v2, by omega, rfl, HEND.out.1, HEND.out.2, HMj.out⟩, rfl⟩)
        | trace_state
      case measure => simp [intOf]; omega
end Go.Proofs.YtpigbnlapcndgaaGreat
namespace Go.Proofs.YtpigbnlapcndgaaGreat
open Go.RowKit Go.WideShapes

set_option maxRecDepth 100000 in
set_option maxHeartbeats 20000000 in
theorem smodel_last : smodel_cut.2.2.2.2.2.2.2.1 := by
  intro a n c G w hcap b off HG HAB i1 i2 i3 M0 p1 M1 p3 vS q0 q1 q2 q3 w0 hn HSZ vW w1 XF vV iv smodel_1 smodel_2 u54 u55 u56 u57 u58 u59 u60 u61 u62 u63 u64 u65 u66 u67 u68 u69 u70 u71 u72 u73 smodel_3 smodel_4 r smodel_5 smodel_6 smodel_7 smodel_8 smodel_9 ti wr u6 u14 u15 u16 u17 u18 u74 u75 u76 u77 u78 u79 u80 u81 u82 u83 u84 u85 u86 u87 u88 u89 u90 u91 u92 u93 u94 u95 u96 u97 u98 u99 u100 u101 u102 u103 u104 u105 u106 u107 u108 u109 u110 u111 u112 u113 u114 u115 u116 u117 u118 u119 u120 u121 u122 u123 u124 u125 u126 u127 u128 u129 u130 u131 u132 u133 u134 u135 u136 u137 u138 u139 u140 u141 u142 u143 u144 u145 u146 u147 u148 u149 u150 u151 u152 u153 u154 u155 u156 u157 u158 u159 u160 u161 u162 u163 u164 u165 u166 u167 u168 u169 u170 u171 u172 u173 u174 u175 u176 u177 u178 u179 u180 u181 u182 u183 u184 u185 u186 u187 u188 u189 u190 u191 u192 u193 u194 u195 u196 u197 u198 u199 u200 u201 u202 u203 u204 u205 u206 u207 u208 i F st v hi hmo hv hM hlt
  obtain rfl : i = n := by omega
  have ti : ¬ (i : Int) < (i : Int) := by omega
  have HM := Lib.hid hM
  clear hM
  go_wp2_with fail
  go_loopw [19, 20, 21, 22] (fun jv _ _ _ wj => ∃ j : Nat, j ≤ 3 ∧ jv = .int .i64 (j : Int) ∧ M3 w r F st v v (fun j => prsS F (st j)) i wj) (fun jv _ _ _ _ => 3 - (intOf jv).toNat)
  case atStart => exact ⟨0, by omega, rfl, HM.out⟩
  case round =>
    clear HM
    obtain ⟨wj, hwj⟩ : ∃ y, y = wr := ⟨_, rfl⟩
    subst hwj
    obtain ⟨j, hj, rfl, hMj⟩ := hrel
    by_cases hj3 : j < 3
    · have tj : (j : Int) < 3 := by omega
      have tj0 : (0 : Int) ≤ (j : Int) := by omega
      have e8 : IntKind.i64.wrap ((j : Int) + 1) = ((j + 1 : Nat) : Int) := by rw [i64_small (by omega) (by omega)]; omega
      have hfw := hMj.few (by omega) hj3
      obtain ⟨pa, pc, g1, g2, g3, ⟨pg, hpa, hpc⟩, -⟩ := hMj.look hj3 (by have := hv j; omega)
      obtain ⟨l9, hl9⟩ : ∃ l9, prsS F (st j) = l9 := ⟨_, rfl⟩
      have HCG : Hid (∀ V m, Below wj.heap.size wj V → m < l9.length → Calls Tryz.prog 17 #[.pointer (some ⟨r.sp j, 0, none⟩), .string (l9[m]?.getD (ByteArray.empty, 0)).1] V fun e w' => e = .returned (.tuple #[.int .i64 (l9[m]?.getD (ByteArray.empty, 0)).2, .bool true]) ∧ Below V.heap.size V w') := fun V m hV hm => by
        have hmem : (l9[m]?.getD (ByteArray.empty, 0)) ∈ prsS F (st j) := by rw [hl9, List.getElem?_eq_getElem hm]; exact List.getElem_mem hm
        exact (hMj.keep hV).get hj3 (nm := (l9[m]?.getD (ByteArray.empty, 0)).1) (y := (l9[m]?.getD (ByteArray.empty, 0)).2) hmem (hMj.short hj3 (y := (l9[m]?.getD (ByteArray.empty, 0)).2) hmem)
      rw [hl9] at hfw
      simp only [hl9] at g2 hpa hpc
      have HMj := Lib.hid hMj
      have HPA := Lib.hid hpa
      have HPC := Lib.hid hpc
      have HG := Lib.hid (And.intro g1 g2)
      clear hMj hpa hpc g1 g2 g3 hl9
      go_wp2_with fail
      go_loopw [20, 21, 22] (fun iv _ _ wm => ∃ m : Nat, m ≤ l9.length ∧ iv = .int .i64 (m : Int) ∧ Below wj.heap.size wj wm) (fun iv _ _ _ => l9.length - (intOf iv).toNat)
      case atStart => exact ⟨0, Nat.zero_le _, rfl, Below.refl _ _⟩
      case round =>
        obtain ⟨wm, hwm⟩ : ∃ y, y = wr := ⟨_, rfl⟩
        subst hwm
        obtain ⟨m, hm, rfl, hBm⟩ := hrel
        have k1 := cell_keep HG.out.1 hBm
        have k2 := cell_keep HG.out.2 hBm
        have tm0 : (0 : Int) ≤ (m : Int) := by omega
        by_cases hml : m < l9.length
        · have tm : (m : Int) < (l9.length : Int) := by omega
          have e9 : IntKind.i64.wrap ((m : Int) + 1) = ((m + 1 : Nat) : Int) := by rw [i64_small (by omega) (by omega)]; omega
          obtain rfl := HPA.out (by omega)
          obtain ⟨c0, c1⟩ := HPC.out m hml
          have HCG1 : Hid (∀ V, Below wj.heap.size wj V → _) := fun V hV => HCG.out V m hV hml
          generalize (l9[m]?.getD (ByteArray.empty, 0)).1 = nm9 at c0 HCG1
          generalize (l9[m]?.getD (ByteArray.empty, 0)).2 = y9 at c1 HCG1
          have hS : Sy wj r.gS r.gW pg j m (r.sp j) (.slice (some ⟨pg, 0, none⟩) l9.length pc) nm9 y9 wm := ⟨⟨k1, k2⟩, ⟨cell_keep c0 hBm, cell_keep c1 hBm⟩, hBm⟩
          clear k1 k2 c0 c1 hBm
          obtain ⟨pl, hpl⟩ : ∃ pl, l9.length = pl := ⟨_, rfl⟩
          rw [hpl] at hS tm hml
          go_upto_region 51 with fail
          go_region_held3 (fun V => (V.cell? ⟨r.gS, j, none⟩ = some (.pointer (some ⟨r.sp j, 0, none⟩)) ∧ V.cell? ⟨r.gW, j, none⟩ = some (.slice (some ⟨pg, 0, none⟩) pl pc)) ∧ (V.cell? ⟨pg, m * 2, none⟩ = some (.string nm9) ∧ V.cell? ⟨pg, m * 2 + 1, none⟩ = some (.int .i64 y9)) ∧ Below wj.heap.size wj V)
            (first | exact hS | exact Sy.keep hS (Below.refl _ _).drew | exact Sy.keep (by assumption) (by assumption) | fail)
            (first | (go_at_call 17; refine (HCG1.out _ (by first | exact (Sy.keep hS (Below.refl _ _).drew).2.2 | exact hS.2.2)).mono ?_; rintro e w5 ⟨rfl, hb5⟩) | fail)
          have hS5 : Sy wj r.gS r.gW pg j m (r.sp j) (.slice (some ⟨pg, 0, none⟩) pl pc) nm9 y9 w5 := by assumption
          obtain ⟨⟨k1, k2⟩, ⟨c0, c1⟩, hB5⟩ := hS5
          have HB5 := Lib.hid hB5
          clear hB5 hS
          go_wp2_with fail
          go_roundw
          case rel => exact ⟨m + 1, by omega, rfl, HB5.out⟩
          case measure => simp [intOf]; omega
        · have tm : ¬ (m : Int) < (l9.length : Int) := by omega
          have HB5 := Lib.hid hBm
          clear hBm
          go_wp2_with fail
          go_roundw
          case rel => exact ⟨j + 1, by omega, rfl, HMj.out.keep HB5.out⟩
          case measure => simp [intOf]; omega
    · have tj : ¬ (j : Int) < 3 := by omega
      have hBj := hMj.hb
      have HBj := Lib.hid hBj
      have CA := awake10_any wj
      clear hMj hBj
      go_wp2_with fail
      refine CA.mono ?_
      rintro e w9 ⟨rfl, hB9⟩
      clear CA
      go_wp2
      go_ret
      exact ⟨rfl, HBj.out.trans (hB9.mono HBj.out.size)⟩
end Go.Proofs.YtpigbnlapcndgaaGreat
namespace Go.Proofs.YtpigbnlapcndgaaGreat
open Go.RowKit Go.WideShapes

theorem smodel_walk : ∀ (m0 m1 : Int) (a : Option Addr) (n c : Nat) (G : Nat → Stp) (w : World), S4 w a n c G → Calls Tryz.prog 3 #[.int .i64 m0, .int .i64 m1, .slice a n c] w fun e w' => e = .returned (.bool true) ∧ Below w.heap.size w w' := smodel_cut.2.2.2.2.2.2.2.2 ⟨smodel_set1⟩ ⟨smodel_set2⟩ ⟨smodel_del1⟩ ⟨smodel_del2⟩ ⟨smodel_def⟩ ⟨smodel_vers⟩ ⟨smodel_loop⟩ ⟨smodel_last⟩
end Go.Proofs.YtpigbnlapcndgaaGreat
