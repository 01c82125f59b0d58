/-
  LexerLays, walked but for some places.
  One of the places that the walk of LxLaysF leaves.
  One of the places that the walk of LxLays leaves.
  LexerLays, walked.
-/
import Derived.Test.YtgillafjccgkdaaDoorLxLays
import Derived.Deep.CutRange
import Derived.Test.YtgillafjccgkdaaDoorLyd
namespace Go.Proofs.YtgillafjccgkdaaDoor
open Go.RowKit Go.WideShapes
namespace Lx

set_option maxRecDepth 100000 in
set_option maxHeartbeats 20000000 in
def laysf_cut : (P_two : Prop) ×' (Bx P_two → (lays_cut.2.1)) := by
  apply PSigma.mk
  focus
    intro hp_two n c A N C X b off b' off' ra rn rc rb ro R w HR HCA HCW HCT HCE hn hrn lays_1 lays_2 lays_3 tn tr u4 lays_4 lays_5 lays_6 u9 u10 lays_7 lays_8 lays_9 u27 u28 u29 u30 u31 u32 u33 u34 u35 u36 u37 u38 u39 u40 u41 u42 u43 lays_10 lays_11 lays_12 lays_13 lays_14 lays_15 lays_16 lays_17 lays_18 lays_19 lays_20 lays_21 lays_22 lays_23 lays_24 lays_25 lays_26 lays_27 lays_28 lays_29 lays_30 lays_31 lays_32 lays_33 lays_34 lays_35 lays_36 lays_37 lays_38 lays_39 lays_40 lays_41 lays_42 lays_43 lays_44 lays_45 lays_46 lays_47 lays_48 lays_49 lays_50 lays_51 lays_52 lays_53 lays_54 lays_55 lays_56 lays_57 u92 u93 u94 u95 u96 u97 u98 u99 u100 u101 u102 u103 u104 u105 u106 u107 u108 u109 u110 u111 u112 u113 u114 u115 u116 u117 u118 u119 u120 u121 u122 u123 u124 u125 u126 u127 u128 u129 wi i P Q ts hi lP lQ lT hin ti ti0 e5 hbl HL hN hN0 tN0 hbA lays_58 lays_59 lays_60 lays_61 lays_62 lays_63 tN u5 u6 u7 u11 u12 u13 u44 u45 u46 u47 u48 u49 u50 u51 u52 u53 u54 u55 u56 u57 u58 u59 u60 u61 u62 u63 u64 u65 u66 u67 u68 u69 u70 u71 u72 u73 u74 u75 u76 u77 u78 u79 u80 u81 u82 u83 u84 u85 u86 u87 u88 u89 u90 u91 wk P' Q' ts' H3 hk lP' lQ' lT' hkN tk HLM
    go_upto_region 26 with fail
    go_cut [103] from 27 to 129 (fun bv wd => ∃ bb, bv = .bool bb ∧ wd = wk)
    case first =>
      by_cases hir : i < rn
      · obtain ⟨rfl, hrb⟩ := HR.out.1 (by omega)
        have cr : wk.cell? ⟨rb, ro + i, none⟩ = some (.int .i64 (R i)) := (H3.out.b.cell (p := ⟨rb, ro + i, none⟩) hrb).trans (HR.out.2 i hir)
        have tir : (i : Int) < (rn : Int) := by omega
        go_wp2_with fail
        go_meet
        case rel => exact ⟨_, rfl, rfl⟩
      · have tir : ¬ (i : Int) < (rn : Int) := by omega
        go_wp2_with fail
        go_meet
        case rel => exact ⟨_, rfl, rfl⟩

    case rest =>
      obtain ⟨bb, rfl, hwx⟩ := hcut
      subst hwx
      go_upto_if 103 with fail
      go_cut [6] from 27 to 129 (fun vl wd => ∃ Q2 : List UInt8, L3 w wd u5 vl u7 P' Q2 ts' ∧ Ly (Q2 ++ [10]) (ts'.map kt ++ [(6, [])]) ∧ Q2.length ≤ Q'.length + 9)
      case first =>
        cases bb with
        | true =>
          go_wp2_with (at_builtin; refine wp_looseS rfl _ _ rfl H3.out rfl [32, 35, 32, 39, 120, 255, 9, 105, 102] rfl (by simp only [List.length_cons, List.length_nil]; omega) ?_)
          intro v6 w6 h6 _
          have H6 := Lib.hid h6
          clear h6
          go_wp2_with fail
          go_meet
          case rel => exact ⟨_, H6.out, HLM.out.2.remark (m := [32, 39, 120, 255, 9, 105, 102]) (by decide), by simp⟩
        | false =>
          go_wp2_with fail
          go_meet
          case rel => exact ⟨Q', H3.out, HLM.out.2.line, by omega⟩
      case rest =>
        obtain ⟨wd, hwd⟩ : ∃ y, y = wc := ⟨_, rfl⟩
        subst hwd
        obtain ⟨Q2, h4, hQ2, lQ2⟩ := hcut
        have H4 := Lib.hid h4
        have HQ2 := Lib.hid hQ2
        clear h4 hQ2
        go_wp2_with (at_builtin; refine wp_plain1 rfl _ _ rfl 10 rfl H4.out rfl rfl (by omega) ?_)
        intro v5 w5 h5 _
        have H5 := Lib.hid h5
        clear h5 H4
        go_wp2_with (at_builtin; refine wp_loose1 rfl _ _ rfl 10 rfl H5.out rfl rfl (by omega) ?_)
        intro v6 w6 h6 _
        have H6 := Lib.hid h6
        clear h6 H5
        rename_i laysf_1 laysf_2 laysf_3 laysf_4 laysf_5 laysf_6 laysf_7 laysf_8 laysf_9 laysf_10 laysf_11 laysf_12 laysf_13 laysf_14 laysf_15 laysf_16 laysf_17 laysf_18 laysf_19 laysf_20 laysf_21 laysf_22 laysf_23 laysf_24 laysf_25 laysf_26 laysf_27 laysf_28 laysf_29 laysf_30 laysf_31 laysf_32 laysf_33 laysf_34 laysf_35 laysf_36 laysf_37 laysf_38 laysf_39 laysf_40 laysf_41 laysf_42 laysf_43 laysf_44 laysf_45 laysf_46 laysf_47 laysf_48 laysf_49 laysf_50 laysf_51 laysf_52 laysf_53 laysf_54 laysf_55 laysf_56 laysf_57 laysf_58 laysf_59 laysf_60 laysf_61 laysf_62 laysf_63 laysf_64 laysf_65 laysf_66 laysf_67 laysf_68 laysf_69 laysf_70 laysf_71 laysf_72 laysf_73 laysf_74 laysf_75 laysf_76 laysf_77 laysf_78 laysf_79 laysf_80 laysf_81 laysf_82 laysf_83 laysf_84 laysf_85 laysf_86 laysf_87 laysf_88 laysf_89 laysf_90 laysf_91 laysf_92 laysf_93 laysf_94 laysf_95 laysf_96 laysf_97 laysf_98 laysf_99 laysf_100 laysf_101 laysf_102 laysf_103 laysf_104 laysf_105 laysf_106 laysf_107 laysf_108 laysf_109 laysf_110 laysf_111 laysf_112 laysf_113 laysf_114 laysf_115 laysf_116 laysf_117 laysf_118 laysf_119 laysf_120 laysf_121 laysf_122 laysf_123 laysf_124 laysf_125 laysf_126 laysf_127 laysf_128 laysf_129 laysf_130 laysf_131 laysf_132 laysf_133 laysf_134 laysf_135 laysf_136 laysf_137 laysf_138 laysf_139 laysf_140 laysf_141 laysf_142 laysf_143 laysf_144 laysf_145 laysf_146 laysf_147 laysf_148 laysf_149 laysf_150 laysf_151 laysf_152 laysf_153 laysf_154 laysf_155 laysf_156 laysf_157 laysf_158 laysf_159 laysf_160 laysf_161 laysf_162 laysf_163 laysf_164 laysf_165 laysf_166 laysf_167 laysf_168 laysf_169 laysf_170 laysf_171 laysf_172 laysf_173 laysf_174 laysf_175 laysf_176 laysf_177 laysf_178 laysf_179 laysf_180 laysf_181 laysf_182 laysf_183 laysf_184 laysf_185 laysf_186 laysf_187 laysf_188 laysf_189 laysf_190 laysf_191 laysf_192 laysf_193 laysf_194 laysf_195 laysf_196 laysf_197 laysf_198 laysf_199 laysf_200 laysf_201 laysf_202 laysf_203 laysf_204 laysf_205 laysf_206 laysf_207 laysf_208 laysf_209 laysf_210 laysf_211 laysf_212 laysf_213
        revert n c A N C X b off b' off' ra rn rc rb ro R w HR HCA HCW HCT HCE hn hrn lays_1 lays_2 lays_3 tn tr u4 lays_4 lays_5 lays_6 u9 u10 lays_7 lays_8 lays_9 laysf_1 laysf_2 laysf_3 laysf_4 laysf_5 laysf_6 laysf_7 laysf_8 laysf_9 laysf_10 laysf_11 laysf_12 laysf_13 laysf_14 laysf_15 laysf_16 laysf_17 lays_10 lays_11 lays_12 lays_13 lays_14 lays_15 lays_16 lays_17 lays_18 lays_19 lays_20 lays_21 lays_22 lays_23 lays_24 lays_25 lays_26 lays_27 lays_28 lays_29 lays_30 lays_31 lays_32 lays_33 lays_34 lays_35 lays_36 lays_37 lays_38 lays_39 lays_40 lays_41 lays_42 lays_43 lays_44 lays_45 lays_46 lays_47 lays_48 lays_49 lays_50 lays_51 lays_52 lays_53 lays_54 lays_55 lays_56 lays_57 laysf_18 laysf_19 laysf_20 laysf_21 laysf_22 laysf_23 laysf_24 laysf_25 laysf_26 laysf_27 laysf_28 laysf_29 laysf_30 laysf_31 laysf_32 laysf_33 laysf_34 laysf_35 laysf_36 laysf_37 laysf_38 laysf_39 laysf_40 laysf_41 laysf_42 laysf_43 laysf_44 laysf_45 laysf_46 laysf_47 laysf_48 laysf_49 laysf_50 laysf_51 laysf_52 laysf_53 laysf_54 laysf_55 wi i P Q ts hi lP lQ lT hin ti ti0 e5 hbl HL hN hN0 tN0 hbA lays_58 lays_59 lays_60 lays_61 lays_62 tN u5 laysf_56 u7 u11 u12 u13 laysf_57 laysf_58 laysf_59 laysf_60 laysf_61 laysf_62 laysf_63 laysf_64 laysf_65 laysf_66 laysf_67 laysf_68 laysf_69 laysf_70 laysf_71 laysf_72 laysf_73 laysf_74 laysf_75 laysf_76 laysf_77 laysf_78 laysf_79 laysf_80 laysf_81 laysf_82 laysf_83 laysf_84 laysf_85 laysf_86 laysf_87 laysf_88 laysf_89 laysf_90 laysf_91 laysf_92 laysf_93 laysf_94 laysf_95 laysf_96 laysf_97 laysf_98 laysf_99 laysf_100 laysf_101 laysf_102 laysf_103 laysf_104 P' Q' ts' hk lP' lQ' lT' hkN HLM laysf_105 laysf_106 laysf_107 wc laysf_108 laysf_109 laysf_110 laysf_111 laysf_112 laysf_113 laysf_114 laysf_115 laysf_116 laysf_117 laysf_118 laysf_119 laysf_120 laysf_121 laysf_122 laysf_123 laysf_124 laysf_125 laysf_126 laysf_127 laysf_128 laysf_129 laysf_130 laysf_131 laysf_132 laysf_133 laysf_134 laysf_135 laysf_136 laysf_137 laysf_138 laysf_139 laysf_140 laysf_141 laysf_142 laysf_143 laysf_144 laysf_145 laysf_146 laysf_147 laysf_148 laysf_149 laysf_150 laysf_151 laysf_152 laysf_153 laysf_154 laysf_155 laysf_156 laysf_157 laysf_158 laysf_159 laysf_160 laysf_161 laysf_162 laysf_163 laysf_164 laysf_165 laysf_166 laysf_167 laysf_168 laysf_169 laysf_170 laysf_171 laysf_172 laysf_173 laysf_174 laysf_175 laysf_176 laysf_177 laysf_178 laysf_179 laysf_180 laysf_181 laysf_182 laysf_183 laysf_184 laysf_185 laysf_186 laysf_187 laysf_188 laysf_189 laysf_190 laysf_191 laysf_192 laysf_193 laysf_194 laysf_195 laysf_196 laysf_197 laysf_198 laysf_199 laysf_200 laysf_201 laysf_202 laysf_203 laysf_204 laysf_205 laysf_206 laysf_207 laysf_208 laysf_209 bb H3 u6 u27 u28 u29 u30 u31 u32 u33 u34 u35 u36 u37 u38 u39 u40 u41 u42 u43 u44 u45 u46 u47 u48 u49 u50 u51 u52 u53 u54 u55 u56 u57 u58 u59 u60 u61 u62 u63 u64 u65 u66 u67 u68 u69 u70 u71 u72 u73 u74 u75 u76 u77 u78 u79 u80 u81 u82 u83 u84 u85 u86 u87 u88 u89 u90 u91 u92 u93 u94 u95 u96 u97 u98 u99 u100 u101 u102 u103 u104 u105 u106 u107 u108 u109 u110 u111 u112 u113 u114 u115 u116 u117 u118 u119 u120 u121 u122 u123 u124 u125 u126 u127 u128 u129 wd Q2 lQ2 HQ2 tk v5 w5 laysf_210 laysf_211 laysf_212 v6 w6 laysf_213 H6
        exact hp_two.out
end Lx
end Go.Proofs.YtgillafjccgkdaaDoor
namespace Go.Proofs.YtgillafjccgkdaaDoor
open Go.RowKit Go.WideShapes
namespace Lx

set_option maxRecDepth 100000 in
set_option maxHeartbeats 20000000 in
theorem laysf_two : laysf_cut.1 := by
  intro n c A N C X b off b' off' ra rn rc rb ro R w HR HCA HCW HCT HCE hn hrn lays_1 lays_2 lays_3 tn tr u4 lays_4 lays_5 lays_6 u9 u10 lays_7 lays_8 lays_9 laysf_1 laysf_2 laysf_3 laysf_4 laysf_5 laysf_6 laysf_7 laysf_8 laysf_9 laysf_10 laysf_11 laysf_12 laysf_13 laysf_14 laysf_15 laysf_16 laysf_17 lays_10 lays_11 lays_12 lays_13 lays_14 lays_15 lays_16 lays_17 lays_18 lays_19 lays_20 lays_21 lays_22 lays_23 lays_24 lays_25 lays_26 lays_27 lays_28 lays_29 lays_30 lays_31 lays_32 lays_33 lays_34 lays_35 lays_36 lays_37 lays_38 lays_39 lays_40 lays_41 lays_42 lays_43 lays_44 lays_45 lays_46 lays_47 lays_48 lays_49 lays_50 lays_51 lays_52 lays_53 lays_54 lays_55 lays_56 lays_57 laysf_18 laysf_19 laysf_20 laysf_21 laysf_22 laysf_23 laysf_24 laysf_25 laysf_26 laysf_27 laysf_28 laysf_29 laysf_30 laysf_31 laysf_32 laysf_33 laysf_34 laysf_35 laysf_36 laysf_37 laysf_38 laysf_39 laysf_40 laysf_41 laysf_42 laysf_43 laysf_44 laysf_45 laysf_46 laysf_47 laysf_48 laysf_49 laysf_50 laysf_51 laysf_52 laysf_53 laysf_54 laysf_55 wi i P Q ts hi lP lQ lT hin ti ti0 e5 hbl HL hN hN0 tN0 hbA lays_58 lays_59 lays_60 lays_61 lays_62 tN u5 laysf_56 u7 u11 u12 u13 laysf_57 laysf_58 laysf_59 laysf_60 laysf_61 laysf_62 laysf_63 laysf_64 laysf_65 laysf_66 laysf_67 laysf_68 laysf_69 laysf_70 laysf_71 laysf_72 laysf_73 laysf_74 laysf_75 laysf_76 laysf_77 laysf_78 laysf_79 laysf_80 laysf_81 laysf_82 laysf_83 laysf_84 laysf_85 laysf_86 laysf_87 laysf_88 laysf_89 laysf_90 laysf_91 laysf_92 laysf_93 laysf_94 laysf_95 laysf_96 laysf_97 laysf_98 laysf_99 laysf_100 laysf_101 laysf_102 laysf_103 laysf_104 P' Q' ts' hk lP' lQ' lT' hkN HLM laysf_105 laysf_106 laysf_107 wc laysf_108 laysf_109 laysf_110 laysf_111 laysf_112 laysf_113 laysf_114 laysf_115 laysf_116 laysf_117 laysf_118 laysf_119 laysf_120 laysf_121 laysf_122 laysf_123 laysf_124 laysf_125 laysf_126 laysf_127 laysf_128 laysf_129 laysf_130 laysf_131 laysf_132 laysf_133 laysf_134 laysf_135 laysf_136 laysf_137 laysf_138 laysf_139 laysf_140 laysf_141 laysf_142 laysf_143 laysf_144 laysf_145 laysf_146 laysf_147 laysf_148 laysf_149 laysf_150 laysf_151 laysf_152 laysf_153 laysf_154 laysf_155 laysf_156 laysf_157 laysf_158 laysf_159 laysf_160 laysf_161 laysf_162 laysf_163 laysf_164 laysf_165 laysf_166 laysf_167 laysf_168 laysf_169 laysf_170 laysf_171 laysf_172 laysf_173 laysf_174 laysf_175 laysf_176 laysf_177 laysf_178 laysf_179 laysf_180 laysf_181 laysf_182 laysf_183 laysf_184 laysf_185 laysf_186 laysf_187 laysf_188 laysf_189 laysf_190 laysf_191 laysf_192 laysf_193 laysf_194 laysf_195 laysf_196 laysf_197 laysf_198 laysf_199 laysf_200 laysf_201 laysf_202 laysf_203 laysf_204 laysf_205 laysf_206 laysf_207 laysf_208 laysf_209 bb H3 u6 u27 u28 u29 u30 u31 u32 u33 u34 u35 u36 u37 u38 u39 u40 u41 u42 u43 u44 u45 u46 u47 u48 u49 u50 u51 u52 u53 u54 u55 u56 u57 u58 u59 u60 u61 u62 u63 u64 u65 u66 u67 u68 u69 u70 u71 u72 u73 u74 u75 u76 u77 u78 u79 u80 u81 u82 u83 u84 u85 u86 u87 u88 u89 u90 u91 u92 u93 u94 u95 u96 u97 u98 u99 u100 u101 u102 u103 u104 u105 u106 u107 u108 u109 u110 u111 u112 u113 u114 u115 u116 u117 u118 u119 u120 u121 u122 u123 u124 u125 u126 u127 u128 u129 wd Q2 lQ2 HQ2 tk v5 w5 laysf_210 laysf_211 laysf_212 v6 w6 laysf_213 H6
  go_upto_region 30 with fail
  go_cut [123] from 27 to 129 (fun bv wd => ∃ bb, bv = .bool bb ∧ wd = w6)
  case first =>
    by_cases hir : i < rn
    · obtain ⟨rfl, hrb⟩ := HR.out.1 (by omega)
      have cr : w6.cell? ⟨rb, ro + i, none⟩ = some (.int .i64 (R i)) := (H6.out.b.cell (p := ⟨rb, ro + i, none⟩) hrb).trans (HR.out.2 i hir)
      have tir : (i : Int) < (rn : Int) := by omega
      go_wp2_with fail
      go_meet
      case rel => exact ⟨_, rfl, rfl⟩
    · have tir : ¬ (i : Int) < (rn : Int) := by omega
      go_wp2_with fail
      go_meet
      case rel => exact ⟨_, rfl, rfl⟩

  case rest =>
    obtain ⟨bb, rfl, hwx⟩ := hcut
    subst hwx
    go_upto_if 123 with fail
    go_cut [6] from 27 to 129 (fun vl wd => ∃ Q3 : List UInt8, L3 w wd v5 vl u7 (P' ++ [10]) Q3 ts' ∧ Ly Q3 (ts'.map kt ++ [(6, [])]) ∧ Q3.length ≤ Q2.length + 12)
    case first =>
      cases bb with
      | true =>
        go_wp2_with (at_builtin; refine wp_looseS rfl _ _ rfl H6.out rfl [32, 32, 32, 35, 32, 40, 10, 10, 32, 32, 10] rfl (by simp only [List.length_cons, List.length_nil, List.length_append]; omega) ?_)
        intro v8 w8 h8 _
        have H8 := Lib.hid h8
        clear h8
        go_wp2_with fail
        go_meet
        case rel => exact ⟨_, H8.out, by have h := HQ2.out.none; rw [List.append_assoc] at h; exact h, by simp⟩
      | false =>
        go_wp2_with fail
        go_meet
        case rel => exact ⟨Q2 ++ [10], H6.out, HQ2.out, by simp⟩
    case rest =>
      obtain ⟨wd, hwd⟩ : ∃ y, y = wc := ⟨_, rfl⟩
      subst hwd
      obtain ⟨Q3, h7, hQ3, lQ3⟩ := hcut
      have H7 := Lib.hid h7
      have HQ3 := Lib.hid hQ3
      clear h7 hQ3
      go_wp2_with (at_builtin; refine wp_tok rfl _ _ rfl ⟨6, [], 0⟩ rfl H7.out rfl rfl (by omega) ?_)
      intro v9 w9 h9
      have H9 := Lib.hid h9
      clear h9 H7
      go_wp2_with fail
      go_roundw
      case rel => exact ⟨i + 1, P' ++ [10], Q3, ts' ++ [⟨6, [], 0⟩], by omega, rfl, H9.out, by rw [map_kt]; exact HLM.out.1.line, by rw [map_kt]; exact HQ3.out, by rw [List.length_append]; simp only [List.length_cons, List.length_nil]; omega, by omega, by rw [List.length_append]; simp only [List.length_cons, List.length_nil]; omega⟩
      case measure => simp [intOf]; omega
end Lx
end Go.Proofs.YtgillafjccgkdaaDoor
namespace Go.Proofs.YtgillafjccgkdaaDoor
open Go.RowKit Go.WideShapes
namespace Lx

set_option maxRecDepth 100000 in
set_option maxHeartbeats 20000000 in
theorem lays_end : lays_cut.2.2.1 := by
  intro a c A N C X b off b' off' ra rn rc rb ro R w HR HCA HCW HCT HCE hrn lays_1 lays_2 lays_3 tr u4 u5 u6 u7 u9 u10 u11 u12 u13 u27 u28 u29 u30 u31 u32 u33 u34 u35 u36 u37 u38 u39 u40 u41 u42 u43 u44 u45 u46 u47 u48 u49 u50 u51 u52 u53 u54 u55 u56 u57 u58 u59 u60 u61 u62 u63 u64 u65 u66 u67 u68 u69 u70 u71 u72 u73 u74 u75 u76 u77 u78 u79 u80 u81 u82 u83 u84 u85 u86 u87 u88 u89 u90 u91 u92 u93 u94 u95 u96 u97 u98 u99 u100 u101 u102 u103 u104 u105 u106 u107 u108 u109 u110 u111 u112 u113 u114 u115 u116 u117 u118 u119 u120 u121 u122 u123 u124 u125 u126 u127 u128 u129 wi i P Q ts lP lQ lT HL hn tn hi hin ti H3 HP
  obtain ⟨t1, hx1, hm1⟩ := HP.out.1.fin
  obtain ⟨t2, hx2, hm2⟩ := HP.out.2.fin
  go_wp2_with (at_builtin; refine wp_tok rfl _ _ rfl ⟨9, [], 0⟩ rfl H3.out rfl rfl (by omega) ?_)
  intro v7 w7 h7
  have H7 := Lib.hid h7
  have C1 := HCT.out w7 u5 P t1 h7.b h7.p (by omega) hx1
  have HM := Lib.hid (And.intro hm1 hm2)
  have HX := Lib.hid hx2
  clear h7 H3 HP hx1 hx2 hm1 hm2
  go_wp2_with fail
  refine C1.mono ?_
  rintro e w8 ⟨tv, rfl, ho8, hb8⟩
  have H8 := Lib.hid (H7.out.below hb8)
  have HO8 := Lib.hid ho8
  clear C1 ho8 hb8 H7
  go_upto_region 35 with fail
  obtain ⟨W9, hW9⟩ : ∃ y, w8.alloc (.cells #[.int .i64 0, .int .i64 0] 35) = y := ⟨_, rfl⟩
  have hB9 : Below w8.heap.size w8 W9 := by rw [← hW9]; exact (Below.refl _ w8).alloc (Nat.le_refl _) _
  have hF9 : W9.cell? ⟨w8.heap.size, 0, none⟩ = some (.int .i64 0) := by rw [← hW9]; exact World.cell?_alloc_at _ _ _ _ rfl
  rw [hW9]
  have h9 := H8.out.below hB9
  have HO9 := Lib.hid (owns_blw HO8.out hB9)
  have C2 := HCT.out W9 u6 Q t2 h9.b h9.q (by omega) HX.out
  have H9 := Lib.hid h9
  have HF9 := Lib.hid hF9
  clear hW9 hB9 hF9 h9 H8 HO8 HX
  go_wp2_with fail
  refine C2.mono ?_
  rintro e wA ⟨tv2, rfl, hoA, hbA⟩
  have HA := Lib.hid (H9.out.below hbA)
  have HOA := Lib.hid (owns_blw HO9.out hbA)
  have HQA := Lib.hid hoA
  have HFA := Lib.hid ((hbA.cell (p := ⟨w8.heap.size, 0, none⟩) (lt_of_cell HF9.out)).trans HF9.out)
  clear C2 hoA hbA H9 HO9 HF9
  go_upto_region 36 with fail
  obtain ⟨WB, hWB⟩ : ∃ y, wA.alloc (.cells #[.int .i64 0, .int .i64 0] 35) = y := ⟨_, rfl⟩
  have hBB : Below wA.heap.size wA WB := by rw [← hWB]; exact (Below.refl _ wA).alloc (Nat.le_refl _) _
  have f2 : WB.cell? ⟨wA.heap.size, 0, none⟩ = some (.int .i64 0) := by rw [← hWB]; exact World.cell?_alloc_at _ _ _ _ rfl
  have f1 : WB.cell? ⟨w8.heap.size, 0, none⟩ = some (.int .i64 0) := (hBB.cell (p := ⟨w8.heap.size, 0, none⟩) (lt_of_cell HFA.out)).trans HFA.out
  rw [hWB]
  have hB := HA.out.below hBB
  have HB := Lib.hid hB
  have HOB := Lib.hid (owns_blw HQA.out hBB)
  have C3 := HCE.out WB tv v7 t1 (ts ++ [⟨9, [], 0⟩]) _ _ (owns_blw HOA.out hBB) hB.t (by rw [map_kt]; exact HM.out.1)
  clear hWB hBB hB HA HOA HQA HFA
  go_wp2_with fail
  refine C3.mono ?_
  rintro e wC ⟨rfl, hbC⟩
  have hC := HB.out.below hbC
  have C4 := HCE.out wC tv2 v7 t2 (ts ++ [⟨9, [], 0⟩]) _ _ (owns_blw HOB.out hbC) hC.t (by rw [map_kt]; exact HM.out.2)
  have HC := Lib.hid hC
  clear C3 hbC hC HB HOB f1 f2
  go_wp2_with fail
  refine C4.mono ?_
  rintro e wD ⟨rfl, hbD⟩
  have hD := (HC.out.below hbD).b
  have C5 := HCA.out wD hD
  have HD := Lib.hid hD
  clear C4 hbD hD HC
  go_wp2_with fail
  refine C5.mono ?_
  rintro e wE ⟨rfl, hbE⟩
  clear C5
  go_wp2
  go_ret
  exact ⟨rfl, HD.out.trans (hbE.mono HD.out.size)⟩
end Lx
end Go.Proofs.YtgillafjccgkdaaDoor
namespace Go.Proofs.YtgillafjccgkdaaDoor
open Go.RowKit Go.WideShapes
namespace Lx

theorem lays_whole : ∀ (a : Option Addr) (n c : Nat) (A : Nat → Option Addr) (N C : Nat → Nat) (X : Nat → Nat → Nat → Int) (b off : Nat) (b' off' : Nat → Nat) (ra : Option Addr) (rn rc : Nat) (rb ro : Nat) (R : Nat → Int) (w : World), Lns w a n A N C X b off b' off' → (0 < rn → ra = some ⟨rb, ro, none⟩ ∧ rb < w.heap.size) → (∀ j, j < rn → w.cell? ⟨rb, ro + j, none⟩ = some (.int .i64 (R j))) → (∀ (x0 x1 x2 : Int) (V : World), Calls Tryd.prog 5 #[.agg #[.int .i64 x0, .int .i64 x1, .int .i64 x2]] V fun e w' => ∃ (s t : List UInt8) (k : Nat), e = .returned (.tuple #[.string ⟨s.toArray⟩, .agg #[.int .i64 (k : Int), .string ⟨t.toArray⟩, .int .i64 0]]) ∧ Pg s k t ∧ s.length ≤ 30 ∧ Below V.heap.size V w') → (∀ (V : World) (vp : Value) (P : List UInt8) (ts : List Tok), Below w.heap.size w V → V.ownsRow w.heap.size 5 1 vp P.length (Lib.byteCells P) → P.length ≤ 65536 → Lex P cf0 (.ok ts) → Calls Tryd.prog 6 #[vp] V fun e w' => ∃ tv, e = .returned (.tuple #[tv, .agg #[.int .i64 0, .int .i64 0]]) ∧ w'.ownsRow V.heap.size 29 3 tv ts.length (tkl ts) ∧ Below V.heap.size V w') → (∀ (V : World) (v1 v2 : Value) (x y : List Tok) (B1 B2 : Nat), V.ownsRow B1 29 3 v1 x.length (tkl x) → V.ownsRow B2 29 3 v2 y.length (tkl y) → x.map kt = y.map kt → Calls Tryd.prog 7 #[v1, v2, .bool false] V fun e w' => e = .returned (.bool true) ∧ Below V.heap.size V w') → (∀ V, Below w.heap.size w V → Calls Tryd.prog 4 #[] V fun e w' => e = .returned (.bool true) ∧ Below V.heap.size V w') → Calls Tryd.prog 3 #[.slice a n c, .slice ra rn rc] w fun e w' => e = .returned (.bool true) ∧ Below w.heap.size w w' :=
  lays_cut.2.2.2 ⟨laysp_cut.2 ⟨laysp_lead⟩⟩ ⟨laysf_cut.2 ⟨laysf_two⟩⟩ ⟨lays_end⟩
end Lx
end Go.Proofs.YtgillafjccgkdaaDoor
