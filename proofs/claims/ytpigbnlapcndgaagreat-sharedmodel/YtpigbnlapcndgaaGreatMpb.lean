/-
  One of the places that the walk of ShM7 leaves.
  One of the places that the walk of ShM7 leaves.
  One of the places that the walk of ShM7 leaves.
  One of the places that the walk of ShM7 leaves.
-/
import Derived.Test.YtpigbnlapcndgaaGreatShM7
namespace Go.Proofs.YtpigbnlapcndgaaGreat
open Go.RowKit Go.WideShapes

set_option maxRecDepth 100000 in
set_option maxHeartbeats 20000000 in
theorem smodel_set2 : smodel_cut.2.1 := by
  intro n c G w hcap b off HG i1 i2 i3 M0 p1 M1 p3 vS q0 q1 q2 q3 w0 hn HSZ vW w1 XF vV iv smodel_1 smodel_2 u54 u55 u56 u57 u58 u59 u60 u61 u62 u63 u64 u65 u66 u67 u68 u69 u70 u71 u72 u73 smodel_3 smodel_4 r smodel_5 smodel_6 smodel_7 smodel_8 wr u6 u14 u15 u16 u17 u18 smodel_9 smodel_10 smodel_11 smodel_12 smodel_13 smodel_14 smodel_15 smodel_16 smodel_17 smodel_18 smodel_19 smodel_20 smodel_21 smodel_22 smodel_23 smodel_24 smodel_25 smodel_26 smodel_27 smodel_28 smodel_29 smodel_30 smodel_31 smodel_32 smodel_33 smodel_34 smodel_35 smodel_36 smodel_37 smodel_38 smodel_39 smodel_40 smodel_41 smodel_42 smodel_43 smodel_44 smodel_45 smodel_46 smodel_47 smodel_48 smodel_49 smodel_50 smodel_51 smodel_52 smodel_53 smodel_54 smodel_55 smodel_56 smodel_57 smodel_58 smodel_59 smodel_60 smodel_61 smodel_62 smodel_63 smodel_64 smodel_65 smodel_66 smodel_67 smodel_68 smodel_69 smodel_70 smodel_71 smodel_72 smodel_73 smodel_74 smodel_75 smodel_76 smodel_77 smodel_78 smodel_79 smodel_80 smodel_81 smodel_82 smodel_83 smodel_84 smodel_85 smodel_86 smodel_87 smodel_88 smodel_89 smodel_90 smodel_91 smodel_92 smodel_93 smodel_94 smodel_95 smodel_96 smodel_97 smodel_98 smodel_99 smodel_100 smodel_101 smodel_102 smodel_103 smodel_104 smodel_105 smodel_106 smodel_107 smodel_108 smodel_109 smodel_110 smodel_111 smodel_112 smodel_113 smodel_114 smodel_115 smodel_116 smodel_117 smodel_118 smodel_119 smodel_120 smodel_121 smodel_122 smodel_123 smodel_124 smodel_125 smodel_126 smodel_127 smodel_128 smodel_129 smodel_130 smodel_131 smodel_132 smodel_133 smodel_134 smodel_135 smodel_136 smodel_137 smodel_138 smodel_139 smodel_140 smodel_141 smodel_142 smodel_143 i F st v hi hmo hv hlt hbl smodel_144 smodel_145 ti e5 x1 nm hnm x3 HM smodel_146 smodel_147 smodel_148 k hk3 smodel_149 smodel_150 smodel_151 smodel_152 smodel_153 smodel_154 smodel_155 smodel_156 smodel_157 smodel_158 smodel_159 smodel_160 smodel_161 smodel_162 smodel_163 smodel_164 smodel_165 smodel_166 smodel_167 smodel_168 smodel_169 smodel_170 smodel_171 smodel_172 smodel_173 smodel_174 smodel_175 smodel_176 smodel_177 smodel_178 smodel_179 smodel_180 smodel_181 smodel_182 smodel_183 smodel_184 smodel_185 smodel_186 smodel_187 smodel_188 smodel_189 smodel_190 smodel_191 smodel_192 smodel_193 smodel_194 smodel_195 smodel_196 smodel_197 smodel_198 smodel_199 smodel_200 smodel_201 smodel_202 smodel_203 smodel_204 smodel_205 smodel_206 smodel_207 smodel_208 smodel_209 smodel_210 smodel_211 smodel_212 smodel_213 smodel_214 smodel_215 smodel_216 smodel_217 smodel_218 smodel_219 smodel_220 smodel_221 smodel_222 smodel_223 smodel_224 smodel_225 smodel_226 smodel_227 smodel_228 smodel_229 smodel_230 smodel_231 smodel_232 smodel_233 smodel_234 smodel_235 smodel_236 smodel_237 smodel_238 smodel_239 smodel_240 smodel_241 smodel_242 smodel_243 smodel_244 smodel_245 smodel_246 smodel_247 smodel_248 smodel_249 smodel_250 smodel_251 smodel_252 smodel_253 smodel_254 smodel_255 smodel_256 smodel_257 smodel_258 smodel_259 smodel_260 smodel_261 smodel_262 smodel_263 smodel_264 smodel_265 smodel_266 smodel_267 smodel_268 smodel_269 smodel_270 smodel_271 smodel_272 smodel_273 smodel_274 smodel_275 smodel_276 smodel_277 smodel_278 smodel_279 smodel_280 smodel_281 smodel_282 smodel_283 hvk ak ck hfew tk HAB w2 wq HBX z1 z2 z3 smodel_284 smodel_285 smodel_286 smodel_287 smodel_288 smodel_289 HX ka kn kc u74 u75 u76 u77 u78 u79 u80 u81 u82 u83 u84 u85 u86 u87 u88 u89 u90 u91 u92 u93 u94 u95 u96 u97 u98 u99 u100 u101 u102 u103 u104 u105 u106 u107 u108 u109 u110 u111 u112 u113 u114 u115 u116 u117 u118 u119 u120 u121 u122 u123 u124 u125 u126 u127 u128 u129 u130 u131 u132 u133 u134 u135 u136 u137 u138 u139 u140 u141 u142 u143 u144 u145 u146 u147 u148 u149 u150 u151 u152 u153 u154 u155 u156 u157 u158 u159 u160 u161 u162 u163 u164 u165 u166 u167 u168 u169 u170 u171 u172 u173 u174 u175 u176 u177 u178 u179 u180 u181 u182 u183 u184 u185 u186 u187 u188 u189 u190 u191 u192 u193 u194 u195 u196 u197 u198 u199 u200 u201 u202 u203 u204 u205 u206 u207 u208 wd l' er CS2 za zc f1 hlx f2 f3 hvb smodel_290 smodel_291
  have hS9 : (wd.cell? ⟨r.gS, k, none⟩ = some (.pointer (some ⟨r.sp k, 0, none⟩)) ∧ wd.cell? ⟨wr.heap.size, 2, none⟩ = some (.string nm)) ∧ wd.cell? ⟨wr.heap.size, 3, none⟩ = some (.int .i64 x3) := ⟨⟨f1, f2⟩, f3⟩
  go_region_held3 (fun V => (V.cell? ⟨r.gS, k, none⟩ = some (.pointer (some ⟨r.sp k, 0, none⟩)) ∧ V.cell? ⟨wr.heap.size, 2, none⟩ = some (.string nm)) ∧ V.cell? ⟨wr.heap.size, 3, none⟩ = some (.int .i64 x3))
    (first | exact hS9 | exact hS3 | fail)
    (first | (go_at_call 10; refine CS2.mono ?_; rintro e w3 ⟨rfl, hcl3, F', st', hmo', hrw, hM4⟩; have hS3 : (w3.cell? ⟨r.gS, k, none⟩ = some (.pointer (some ⟨r.sp k, 0, none⟩)) ∧ w3.cell? ⟨wr.heap.size, 2, none⟩ = some (.string nm)) ∧ w3.cell? ⟨wr.heap.size, 3, none⟩ = some (.int .i64 x3) := ⟨⟨(hM4.look hk3 (hvb _)).choose_spec.choose_spec.1, (hcl3 _ 2 (Nat.le_refl _) hlx).trans f2⟩, (hcl3 _ 3 (Nat.le_refl _) hlx).trans f3⟩) | fail)
  have HM4 := Lib.hid hM4
  have HMR := Lib.hid (And.intro hmo' hrw)
  clear hM4 hmo' hrw f1 f2 f3 hS9 hS3 hcl3
  by_cases her : er = 0
  · subst her
    go_wp2_with fail
    go_meet
    case rel => exact ⟨F', st', 0, rfl, HMR.out.1.trans hmo, HMR.out.2, HM4.out⟩
  · have td : decide (er = 0) = false := decide_eq_false her
    have tb : (er == 0) = false := by simp [her]
    rw [td]
    try rw [tb]
    go_wp2_with fail
    go_meet
    case rel => exact ⟨F', st', er, by rw [decide_eq_false her], HMR.out.1.trans hmo, HMR.out.2, HM4.out⟩
end Go.Proofs.YtpigbnlapcndgaaGreat
namespace Go.Proofs.YtpigbnlapcndgaaGreat
open Go.RowKit Go.WideShapes

set_option maxRecDepth 100000 in
set_option maxHeartbeats 20000000 in
theorem smodel_del2 : smodel_cut.2.2.2.1 := by
  intro n c G w hcap b off HG i1 i2 i3 M0 p1 M1 p3 vS q0 q1 q2 q3 w0 hn HSZ vW w1 XF vV iv smodel_1 smodel_2 u54 u55 u56 u57 u58 u59 u60 u61 u62 u63 u64 u65 u66 u67 u68 u69 u70 u71 u72 u73 smodel_3 smodel_4 r smodel_5 smodel_6 smodel_7 smodel_8 wr u6 u14 u15 u16 u17 u18 smodel_9 smodel_10 smodel_11 smodel_12 smodel_13 smodel_14 smodel_15 smodel_16 smodel_17 smodel_18 smodel_19 smodel_20 smodel_21 smodel_22 smodel_23 smodel_24 smodel_25 smodel_26 smodel_27 smodel_28 smodel_29 smodel_30 smodel_31 smodel_32 smodel_33 smodel_34 smodel_35 smodel_36 smodel_37 smodel_38 smodel_39 smodel_40 smodel_41 smodel_42 smodel_43 smodel_44 smodel_45 smodel_46 smodel_47 smodel_48 smodel_49 smodel_50 smodel_51 smodel_52 smodel_53 smodel_54 smodel_55 smodel_56 smodel_57 smodel_58 smodel_59 smodel_60 smodel_61 smodel_62 smodel_63 smodel_64 smodel_65 smodel_66 smodel_67 smodel_68 smodel_69 smodel_70 smodel_71 smodel_72 smodel_73 smodel_74 smodel_75 smodel_76 smodel_77 smodel_78 smodel_79 smodel_80 smodel_81 smodel_82 smodel_83 smodel_84 smodel_85 smodel_86 smodel_87 smodel_88 smodel_89 smodel_90 smodel_91 smodel_92 smodel_93 smodel_94 smodel_95 smodel_96 smodel_97 smodel_98 smodel_99 smodel_100 smodel_101 smodel_102 smodel_103 smodel_104 smodel_105 smodel_106 smodel_107 smodel_108 smodel_109 smodel_110 smodel_111 smodel_112 smodel_113 smodel_114 smodel_115 smodel_116 smodel_117 smodel_118 smodel_119 smodel_120 smodel_121 smodel_122 smodel_123 smodel_124 smodel_125 smodel_126 smodel_127 smodel_128 smodel_129 smodel_130 smodel_131 smodel_132 smodel_133 smodel_134 smodel_135 smodel_136 smodel_137 smodel_138 smodel_139 smodel_140 smodel_141 smodel_142 smodel_143 i F st v hi hmo hv hlt hbl smodel_144 smodel_145 ti e5 x1 nm hnm x3 HM smodel_146 smodel_147 smodel_148 k hk3 smodel_149 smodel_150 smodel_151 smodel_152 smodel_153 smodel_154 smodel_155 smodel_156 smodel_157 smodel_158 smodel_159 smodel_160 smodel_161 smodel_162 smodel_163 smodel_164 smodel_165 smodel_166 smodel_167 smodel_168 smodel_169 smodel_170 smodel_171 smodel_172 smodel_173 smodel_174 smodel_175 smodel_176 smodel_177 smodel_178 smodel_179 smodel_180 smodel_181 smodel_182 smodel_183 smodel_184 smodel_185 smodel_186 smodel_187 smodel_188 smodel_189 smodel_190 smodel_191 smodel_192 smodel_193 smodel_194 smodel_195 smodel_196 smodel_197 smodel_198 smodel_199 smodel_200 smodel_201 smodel_202 smodel_203 smodel_204 smodel_205 smodel_206 smodel_207 smodel_208 smodel_209 smodel_210 smodel_211 smodel_212 smodel_213 smodel_214 smodel_215 smodel_216 smodel_217 smodel_218 smodel_219 smodel_220 smodel_221 smodel_222 smodel_223 smodel_224 smodel_225 smodel_226 smodel_227 smodel_228 smodel_229 smodel_230 smodel_231 smodel_232 smodel_233 smodel_234 smodel_235 smodel_236 smodel_237 smodel_238 smodel_239 smodel_240 smodel_241 smodel_242 smodel_243 smodel_244 smodel_245 smodel_246 smodel_247 smodel_248 smodel_249 smodel_250 smodel_251 smodel_252 smodel_253 smodel_254 smodel_255 smodel_256 smodel_257 smodel_258 smodel_259 smodel_260 smodel_261 smodel_262 smodel_263 smodel_264 smodel_265 smodel_266 smodel_267 smodel_268 smodel_269 smodel_270 smodel_271 smodel_272 smodel_273 smodel_274 smodel_275 smodel_276 smodel_277 smodel_278 smodel_279 smodel_280 smodel_281 smodel_282 smodel_283 hvk ak ck hfew tk HAB w2 wq HBX z1 z2 z3 smodel_284 smodel_285 smodel_286 smodel_287 smodel_288 smodel_289 HX h01 ka kn kc u74 u75 u76 u77 u78 u79 u80 u81 u82 u83 u84 u85 u86 u87 u88 u89 u90 u91 u92 u93 u94 u95 u96 u97 u98 u99 u100 u101 u102 u103 u104 u105 u106 u107 u108 u109 u110 u111 u112 u113 u114 u115 u116 u117 u118 u119 u120 u121 u122 u123 u124 u125 u126 u127 u128 u129 u130 u131 u132 u133 u134 u135 u136 u137 u138 u139 u140 u141 u142 u143 u144 u145 u146 u147 u148 u149 u150 u151 u152 u153 u154 u155 u156 u157 u158 u159 u160 u161 u162 u163 u164 u165 u166 u167 u168 u169 u170 u171 u172 u173 u174 u175 u176 u177 u178 u179 u180 u181 u182 u183 u184 u185 u186 u187 u188 u189 u190 u191 u192 u193 u194 u195 u196 u197 u198 u199 u200 u201 u202 u203 u204 u205 u206 u207 u208 wd l' er CS2 za zc f1 hlx f2 hvb smodel_290 smodel_291
  have hS9 : (wd.cell? ⟨r.gS, k, none⟩ = some (.pointer (some ⟨r.sp k, 0, none⟩)) ∧ wd.cell? ⟨wr.heap.size, 2, none⟩ = some (.string nm)) := ⟨f1, f2⟩
  go_region_held3 (fun V => (V.cell? ⟨r.gS, k, none⟩ = some (.pointer (some ⟨r.sp k, 0, none⟩)) ∧ V.cell? ⟨wr.heap.size, 2, none⟩ = some (.string nm)))
    (first | exact hS9 | exact hS3 | fail)
    (first | (go_at_call 12; refine CS2.mono ?_; rintro e w3 ⟨rfl, hcl3, F', st', hmo', hrw, hM4⟩; have hS3 : (w3.cell? ⟨r.gS, k, none⟩ = some (.pointer (some ⟨r.sp k, 0, none⟩)) ∧ w3.cell? ⟨wr.heap.size, 2, none⟩ = some (.string nm)) := ⟨(hM4.look hk3 (hvb _)).choose_spec.choose_spec.1, (hcl3 _ 2 (Nat.le_refl _) hlx).trans f2⟩) | fail)
  have HM4 := Lib.hid hM4
  have HMR := Lib.hid (And.intro hmo' hrw)
  clear hM4 hmo' hrw f1 f2 hS9 hS3 hcl3
  by_cases her : er = 0
  · subst her
    go_wp2_with fail
    go_meet
    case rel => exact ⟨F', st', 0, rfl, HMR.out.1.trans hmo, HMR.out.2, HM4.out⟩
  · have td : decide (er = 0) = false := decide_eq_false her
    have tb : (er == 0) = false := by simp [her]
    rw [td]
    try rw [tb]
    go_wp2_with fail
    go_meet
    case rel => exact ⟨F', st', er, by rw [decide_eq_false her], HMR.out.1.trans hmo, HMR.out.2, HM4.out⟩
end Go.Proofs.YtpigbnlapcndgaaGreat
namespace Go.Proofs.YtpigbnlapcndgaaGreat
open Go.RowKit Go.WideShapes

set_option maxRecDepth 100000 in
set_option maxHeartbeats 20000000 in
theorem smodel_def : smodel_cut.2.2.2.2.1 := by
  intro n c G w hcap b off HG i1 i2 i3 M0 p1 M1 p3 vS q0 q1 q2 q3 w0 hn HSZ vW w1 XF vV iv smodel_1 smodel_2 u54 u55 u56 u57 u58 u59 u60 u61 u62 u63 u64 u65 u66 u67 u68 u69 u70 u71 u72 u73 smodel_3 smodel_4 r smodel_5 smodel_6 smodel_7 smodel_8 wr u6 u14 u15 u16 u17 u18 smodel_9 smodel_10 smodel_11 smodel_12 smodel_13 smodel_14 smodel_15 smodel_16 smodel_17 smodel_18 smodel_19 smodel_20 smodel_21 smodel_22 smodel_23 smodel_24 smodel_25 smodel_26 smodel_27 smodel_28 smodel_29 smodel_30 smodel_31 smodel_32 smodel_33 smodel_34 smodel_35 smodel_36 smodel_37 smodel_38 smodel_39 smodel_40 smodel_41 smodel_42 smodel_43 smodel_44 smodel_45 smodel_46 smodel_47 smodel_48 smodel_49 smodel_50 smodel_51 smodel_52 smodel_53 smodel_54 smodel_55 smodel_56 smodel_57 smodel_58 smodel_59 smodel_60 smodel_61 smodel_62 smodel_63 smodel_64 smodel_65 smodel_66 smodel_67 smodel_68 smodel_69 smodel_70 smodel_71 smodel_72 smodel_73 smodel_74 smodel_75 smodel_76 smodel_77 smodel_78 smodel_79 smodel_80 smodel_81 smodel_82 smodel_83 smodel_84 smodel_85 smodel_86 smodel_87 smodel_88 smodel_89 smodel_90 smodel_91 smodel_92 smodel_93 smodel_94 smodel_95 smodel_96 smodel_97 smodel_98 smodel_99 smodel_100 smodel_101 smodel_102 smodel_103 smodel_104 smodel_105 smodel_106 smodel_107 smodel_108 smodel_109 smodel_110 smodel_111 smodel_112 smodel_113 smodel_114 smodel_115 smodel_116 smodel_117 smodel_118 smodel_119 smodel_120 smodel_121 smodel_122 smodel_123 smodel_124 smodel_125 smodel_126 smodel_127 smodel_128 smodel_129 smodel_130 smodel_131 smodel_132 smodel_133 smodel_134 smodel_135 smodel_136 smodel_137 smodel_138 smodel_139 smodel_140 smodel_141 smodel_142 smodel_143 i F st v hi hmo hv hlt hbl smodel_144 smodel_145 ti e5 x0 x1 nm hnm x3 HM smodel_146 smodel_147 smodel_148 k hk3 u74 u75 u76 u77 u78 u79 u80 u81 u82 u83 u84 u85 u86 u87 u88 u89 u90 u91 u92 u93 u94 u95 u96 u97 u98 u99 u100 u101 u102 u103 u104 u105 u106 u107 u108 u109 u110 u111 u112 u113 u114 u115 u116 u117 u118 u119 u120 u121 u122 u123 u124 u125 u126 u127 u128 u129 u130 u131 u132 u133 u134 u135 u136 u137 u138 u139 u140 u141 u142 u143 u144 u145 u146 u147 u148 u149 u150 u151 u152 u153 u154 u155 u156 u157 u158 u159 u160 u161 u162 u163 u164 u165 u166 u167 u168 u169 u170 u171 u172 u173 u174 u175 u176 u177 u178 u179 u180 u181 u182 u183 u184 u185 u186 u187 u188 u189 u190 u191 u192 u193 u194 u195 u196 u197 u198 u199 u200 u201 u202 u203 u204 u205 u206 u207 u208 hvk ak ck hfew tk HAB w2 wq HX HBX z1 z2 z3 u0 smodel_149 smodel_150 smodel_151 smodel_152 smodel_153 smodel_154 h01 h03 HMD
  go_wp2_with fail
  go_meet
  case rel => exact ⟨F, st, 1, rfl, hmo, id, HMD.out⟩
end Go.Proofs.YtpigbnlapcndgaaGreat
namespace Go.Proofs.YtpigbnlapcndgaaGreat
open Go.RowKit Go.WideShapes

set_option maxRecDepth 100000 in
set_option maxHeartbeats 20000000 in
theorem smodel_vers : smodel_cut.2.2.2.2.2.1 := by
  intro n c G w hcap b off HG i1 i2 i3 M0 p1 M1 p3 vS q0 q1 q2 q3 w0 hn HSZ vW w1 XF vV iv smodel_1 smodel_2 u54 u55 u56 u57 u58 u59 u60 u61 u62 u63 u64 u65 u66 u67 u68 u69 u70 u71 u72 u73 smodel_3 smodel_4 r smodel_5 smodel_6 smodel_7 smodel_8 wr smodel_9 u14 u15 u16 u17 u18 smodel_10 smodel_11 smodel_12 smodel_13 smodel_14 smodel_15 smodel_16 smodel_17 smodel_18 smodel_19 smodel_20 smodel_21 smodel_22 smodel_23 smodel_24 smodel_25 smodel_26 smodel_27 smodel_28 smodel_29 smodel_30 smodel_31 smodel_32 smodel_33 smodel_34 smodel_35 smodel_36 smodel_37 smodel_38 smodel_39 smodel_40 smodel_41 smodel_42 smodel_43 smodel_44 smodel_45 smodel_46 smodel_47 smodel_48 smodel_49 smodel_50 smodel_51 smodel_52 smodel_53 smodel_54 smodel_55 smodel_56 smodel_57 smodel_58 smodel_59 smodel_60 smodel_61 smodel_62 smodel_63 smodel_64 smodel_65 smodel_66 smodel_67 smodel_68 smodel_69 smodel_70 smodel_71 smodel_72 smodel_73 smodel_74 smodel_75 smodel_76 smodel_77 smodel_78 smodel_79 smodel_80 smodel_81 smodel_82 smodel_83 smodel_84 smodel_85 smodel_86 smodel_87 smodel_88 smodel_89 smodel_90 smodel_91 smodel_92 smodel_93 smodel_94 smodel_95 smodel_96 smodel_97 smodel_98 smodel_99 smodel_100 smodel_101 smodel_102 smodel_103 smodel_104 smodel_105 smodel_106 smodel_107 smodel_108 smodel_109 smodel_110 smodel_111 smodel_112 smodel_113 smodel_114 smodel_115 smodel_116 smodel_117 smodel_118 smodel_119 smodel_120 smodel_121 smodel_122 smodel_123 smodel_124 smodel_125 smodel_126 smodel_127 smodel_128 smodel_129 smodel_130 smodel_131 smodel_132 smodel_133 smodel_134 smodel_135 smodel_136 smodel_137 smodel_138 smodel_139 smodel_140 smodel_141 smodel_142 smodel_143 smodel_144 i F st v hi hmo hv hlt hbl smodel_145 smodel_146 ti e5 x0 x1 nm hnm x3 smodel_147 smodel_148 smodel_149 k hk3 smodel_150 smodel_151 smodel_152 smodel_153 smodel_154 smodel_155 smodel_156 smodel_157 smodel_158 smodel_159 smodel_160 smodel_161 smodel_162 smodel_163 smodel_164 smodel_165 smodel_166 smodel_167 smodel_168 smodel_169 smodel_170 smodel_171 smodel_172 smodel_173 smodel_174 smodel_175 smodel_176 smodel_177 smodel_178 smodel_179 smodel_180 smodel_181 smodel_182 smodel_183 smodel_184 smodel_185 smodel_186 smodel_187 smodel_188 smodel_189 smodel_190 smodel_191 smodel_192 smodel_193 smodel_194 smodel_195 smodel_196 smodel_197 smodel_198 smodel_199 smodel_200 smodel_201 smodel_202 smodel_203 smodel_204 smodel_205 smodel_206 smodel_207 smodel_208 smodel_209 smodel_210 smodel_211 smodel_212 smodel_213 smodel_214 smodel_215 smodel_216 smodel_217 smodel_218 smodel_219 smodel_220 smodel_221 smodel_222 smodel_223 smodel_224 smodel_225 smodel_226 smodel_227 smodel_228 smodel_229 smodel_230 smodel_231 smodel_232 smodel_233 smodel_234 smodel_235 smodel_236 smodel_237 smodel_238 smodel_239 smodel_240 smodel_241 smodel_242 smodel_243 smodel_244 smodel_245 smodel_246 smodel_247 smodel_248 smodel_249 smodel_250 smodel_251 smodel_252 smodel_253 smodel_254 smodel_255 smodel_256 smodel_257 smodel_258 smodel_259 smodel_260 smodel_261 smodel_262 smodel_263 smodel_264 smodel_265 smodel_266 smodel_267 smodel_268 smodel_269 smodel_270 smodel_271 smodel_272 smodel_273 smodel_274 smodel_275 smodel_276 smodel_277 smodel_278 smodel_279 smodel_280 smodel_281 smodel_282 smodel_283 smodel_284 hvk ak ck tk HAB w2 wq u6 u74 u75 u76 u77 u78 u79 u80 u81 u82 u83 u84 u85 u86 u87 u88 u89 u90 u91 u92 u93 u94 u95 u96 u97 u98 u99 u100 u101 u102 u103 u104 u105 u106 u107 u108 u109 u110 u111 u112 u113 u114 u115 u116 u117 u118 u119 u120 u121 u122 u123 u124 u125 u126 u127 u128 u129 u130 u131 u132 u133 u134 u135 u136 u137 u138 u139 u140 u141 u142 u143 u144 u145 u146 u147 u148 u149 u150 u151 u152 u153 u154 u155 u156 u157 u158 u159 u160 u161 u162 u163 u164 u165 u166 u167 u168 u169 u170 u171 u172 u173 u174 u175 u176 u177 u178 u179 u180 u181 u182 u183 u184 u185 u186 u187 u188 u189 u190 u191 u192 u193 u194 u195 u196 u197 u198 u199 u200 u201 u202 u203 u204 u205 u206 u207 u208 we F' st' er hmo' hrw v2 hM5 hv2 hv2' smodel_285 smodel_286 smodel_287 smodel_288 smodel_289 smodel_290
  obtain ⟨y1, y2, y3⟩ := hM5.ver hk3
  by_cases her : er = 0
  · subst her
    rw [if_pos rfl] at hv2
    have e7 : IntKind.i64.wrap ((v k : Int) + 1) = ((v k + 1 : Nat) : Int) := by rw [i64_small (by omega) (by have := hv k; omega)]; omega
    have HY3 := Lib.hid y3
    clear y3 hM5
    go_wp2_with fail
    go_meet
    case rel =>
      show M3 w r F' st' v2 v2 _ _ _
      have := HY3.out
      rw [hv2] at this
      exact this
  · have td : decide (er = 0) = false := decide_eq_false her
    rw [if_neg her, up3_self] at hv2
    subst hv2
    have HM5 := Lib.hid hM5
    clear hM5 y1 y2 y3
    go_wp2_with fail
    go_meet
    case rel => exact HM5.out
end Go.Proofs.YtpigbnlapcndgaaGreat
