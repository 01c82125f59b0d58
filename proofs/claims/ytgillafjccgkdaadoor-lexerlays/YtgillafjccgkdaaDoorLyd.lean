/-
  LexerLays, walked but for some places.
  One of the places that the walk of LxLaysP leaves.
-/
import Derived.Test.YtgillafjccgkdaaDoorLxLays
import Derived.Deep.CutRange
namespace Go.Proofs.YtgillafjccgkdaaDoor
open Go.RowKit Go.WideShapes
namespace Lx

set_option maxRecDepth 100000 in
set_option maxHeartbeats 20000000 in
def laysp_cut : (P_lead : Prop) ×' (Bx P_lead → (lays_cut.1)) := by
  apply PSigma.mk
  focus
    intro hp_lead n c A N C X b off b' off' ra rn rc rb ro R w HR HCA HCW HCT HCE hn hrn lays_1 lays_2 lays_3 tn tr u4 lays_4 lays_5 lays_6 u9 u10 lays_7 lays_8 lays_9 u27 u28 u29 u30 u31 u32 u33 u34 u35 u36 u37 u38 u39 u40 u41 u42 u43 lays_10 lays_11 lays_12 lays_13 lays_14 lays_15 lays_16 lays_17 lays_18 lays_19 lays_20 lays_21 lays_22 lays_23 lays_24 lays_25 lays_26 lays_27 lays_28 lays_29 lays_30 lays_31 lays_32 lays_33 lays_34 lays_35 lays_36 lays_37 lays_38 lays_39 lays_40 lays_41 lays_42 lays_43 lays_44 lays_45 lays_46 lays_47 lays_48 lays_49 lays_50 lays_51 lays_52 lays_53 lays_54 lays_55 lays_56 lays_57 u92 u93 u94 u95 u96 u97 u98 u99 u100 u101 u102 u103 u104 u105 u106 u107 u108 u109 u110 u111 u112 u113 u114 u115 u116 u117 u118 u119 u120 u121 u122 u123 u124 u125 u126 u127 u128 u129 wi i P Q ts hi lP lQ lT hin ti ti0 e5 hbl HL hN hN0 tN0 hbA lays_58 lays_59 lays_60 lays_61 lays_62 lays_63 tN u5 u6 u7 u11 u12 u13 u44 u45 u46 u47 u48 u49 u50 u51 u52 u53 u54 u55 u56 u57 u58 u59 u60 u61 u62 u63 u64 u65 u66 u67 u68 u69 u70 u71 u72 u73 u74 u75 u76 u77 u78 u79 u80 u81 u82 u83 u84 u85 u86 u87 u88 u89 u90 u91 wk k P' Q' ts' hk lP' lQ' lT' H3 HLY hkN tk
    have hb3 := H3.out.b
    have c0 : wk.cell? ⟨b' i, off' i + k * 3, none⟩ = some (.int .i64 (X i k 0)) := (hb3.cell (p := ⟨b' i, off' i + k * 3 + 0, none⟩) hbA).trans (HL.out.pc i hin k hkN 0 (by omega))
    have c1 : wk.cell? ⟨b' i, off' i + k * 3 + 1, none⟩ = some (.int .i64 (X i k 1)) := (hb3.cell (p := ⟨b' i, off' i + k * 3 + 1, none⟩) hbA).trans (HL.out.pc i hin k hkN 1 (by omega))
    have c2 : wk.cell? ⟨b' i, off' i + k * 3 + 2, none⟩ = some (.int .i64 (X i k 2)) := (hb3.cell (p := ⟨b' i, off' i + k * 3 + 2, none⟩) hbA).trans (HL.out.pc i hin k hkN 2 (by omega))
    have HX2 : Hid (∀ V, Below w.heap.size w V → V.cell? ⟨b' i, off' i + k * 3 + 2, none⟩ = some (.int .i64 (X i k 2))) := fun V hV => (hV.cell (p := ⟨b' i, off' i + k * 3 + 2, none⟩) hbA).trans (HL.out.pc i hin k hkN 2 (by omega))
    have CW := HCW.out (X i k 0) (X i k 1) (X i k 2) wk
    have tk0 : (0 : Int) ≤ (k : Int) := by omega
    have ek : IntKind.i64.wrap ((k : Int) + 1) = ((k + 1 : Nat) : Int) := by rw [i64_small (by omega) (by omega)]; omega
    generalize X i k 0 = x0 at c0 CW
    generalize X i k 1 = x1 at c1 CW
    generalize X i k 2 = x2 at c2 CW HX2
    clear hb3
    go_wp2_with fail
    refine CW.mono ?_
    rintro e w2 ⟨s, t, kd, rfl, hpg, hls, hb2⟩
    clear CW c0 c1 c2
    have h32 := H3.out.below hb2
    have HPG := Lib.hid hpg
    clear hb2 H3 hpg
    go_upto_region 16 with fail
    obtain ⟨W3, hW3⟩ : ∃ y, w2.alloc (.cells #[.int .i64 (kd : Int), .string ⟨t.toArray⟩, .int .i64 0] 29) = y := ⟨_, rfl⟩
    have hB3 : Below w2.heap.size w2 W3 := by rw [← hW3]; exact (Below.refl _ w2).alloc (Nat.le_refl _) _
    have hT3 : W3.heap[w2.heap.size]? = some (.cells #[.int .i64 (kd : Int), .string ⟨t.toArray⟩, .int .i64 0] 29) := by
      rw [← hW3]
      unfold World.alloc
      simp
    rw [hW3]
    have H3 := Lib.hid (h32.below hB3)
    have HT := Lib.hid hT3
    obtain ⟨g, hg⟩ : ∃ g, w2.heap.size = g := ⟨_, rfl⟩
    rw [hg] at HT ⊢
    clear h32 hT3 hB3 hW3 hg
    go_upto_if 59 with fail
    go_cut [5, 6, 13] from 44 to 91 (fun vp vl _ wd => ∃ P2 Q2 : List UInt8, L3 w wd vp vl u7 P2 Q2 ts' ∧ Lr P2 (ts'.map kt) ∧ Lr Q2 (ts'.map kt) ∧ P2.length ≤ P'.length + 1 ∧ Q2.length ≤ Q'.length + 10 ∧ wd.heap[g]? = some (.cells #[.int .i64 (kd : Int), .string ⟨t.toArray⟩, .int .i64 0] 29))
    case first =>
      rename_i laysp_1 laysp_2 laysp_3 laysp_4 laysp_5 laysp_6 laysp_7 laysp_8 laysp_9
      revert n c A N C X b off b' off' ra rn rc rb ro R w HR HCA HCW HCT HCE hn hrn lays_1 lays_2 lays_3 tn tr u4 lays_4 lays_5 lays_6 u9 u10 lays_7 lays_8 lays_9 u27 u28 u29 u30 u31 u32 u33 u34 u35 u36 u37 u38 u39 u40 u41 u42 u43 lays_10 lays_11 lays_12 lays_13 lays_14 lays_15 lays_16 lays_17 lays_18 lays_19 lays_20 lays_21 lays_22 lays_23 lays_24 lays_25 lays_26 lays_27 lays_28 lays_29 lays_30 lays_31 lays_32 lays_33 lays_34 lays_35 lays_36 lays_37 lays_38 lays_39 lays_40 lays_41 lays_42 lays_43 lays_44 lays_45 lays_46 lays_47 lays_48 lays_49 lays_50 lays_51 lays_52 lays_53 lays_54 lays_55 lays_56 lays_57 u92 u93 u94 u95 u96 u97 u98 u99 u100 u101 u102 u103 u104 u105 u106 u107 u108 u109 u110 u111 u112 u113 u114 u115 u116 u117 u118 u119 u120 u121 u122 u123 u124 u125 u126 u127 u128 u129 wi i P Q ts hi lP lQ lT hin ti ti0 e5 hbl HL hN hN0 tN0 hbA lays_58 lays_59 lays_60 lays_61 lays_62 lays_63 tN u5 u6 u7 u11 u12 u13 u44 u45 u46 u47 u48 u49 u50 u51 u52 u53 u54 u55 u56 u57 u58 u59 u60 u61 u62 u63 u64 u65 u66 u67 u68 u69 u70 u71 u72 u73 u74 u75 u76 u77 u78 u79 u80 u81 u82 u83 u84 u85 u86 u87 u88 u89 u90 u91 wk k P' Q' ts' hk lP' lQ' lT' HLY hkN tk tk0 ek x0 x1 x2 HX2 laysp_1 laysp_2 laysp_3 w2 s t kd hls HPG laysp_4 laysp_5 W3 H3 g HT laysp_6 laysp_7 laysp_8 laysp_9
      exact hp_lead.out
    case rest =>
      clear hp_lead
      obtain ⟨wd, hwd⟩ : ∃ y, y = wc := ⟨_, rfl⟩
      subst hwd
      obtain ⟨P2, Q2, h3, hP2, hQ2, lP2, lQ2, hT⟩ := hcut
      have H4 := Lib.hid h3
      have HT4 := Lib.hid hT
      have HR2 := Lib.hid (And.intro hP2 hQ2)
      clear H3 HT h3 hT hP2 hQ2
      go_wp2_with (at_builtin; refine wp_plainS rfl _ _ rfl H4.out rfl s rfl (by omega) ?_)
      intro v5 w5 h5 t5
      have H5 := Lib.hid h5
      have HT5 := Lib.hid (t5 _ _ HT4.out)
      clear h5 t5 HT4 H4
      go_wp2_with (at_builtin; refine wp_looseS rfl _ _ rfl H5.out rfl s rfl (by omega) ?_)
      intro v6 w6 h6 t6
      have H6 := Lib.hid h6
      obtain ⟨k0, k1, k2⟩ := tok_cells (t6 _ _ HT5.out)
      clear h6 t6 HT5 H5
      go_wp2_with (at_builtin; refine wp_tok rfl _ _ rfl ⟨kd, t, 0⟩ rfl H6.out rfl rfl (by omega) ?_)
      intro v7 w7 h7
      have H7 := Lib.hid h7
      clear h7 H6 k0 k1 k2
      go_wp2_with fail
      go_roundw
      case rel => exact ⟨k + 1, P2 ++ s, Q2 ++ s, ts' ++ [⟨kd, t, 0⟩], by omega, rfl, H7.out, by rw [if_neg (by omega), map_kt]; exact ⟨HR2.out.1.piece HPG.out, HR2.out.2.piece HPG.out⟩, by rw [List.length_append]; omega, by rw [List.length_append]; omega, by rw [List.length_append]; simp only [List.length_cons, List.length_nil]; omega⟩
      case measure => simp [intOf]; omega
end Lx
end Go.Proofs.YtgillafjccgkdaaDoor
namespace Go.Proofs.YtgillafjccgkdaaDoor
open Go.RowKit Go.WideShapes
namespace Lx

set_option maxRecDepth 100000 in
set_option maxHeartbeats 20000000 in
theorem laysp_lead : laysp_cut.1 := by
  intro n c A N C X b off b' off' ra rn rc rb ro R w HR HCA HCW HCT HCE hn hrn lays_1 lays_2 lays_3 tn tr u4 lays_4 lays_5 lays_6 u9 u10 lays_7 lays_8 lays_9 u27 u28 u29 u30 u31 u32 u33 u34 u35 u36 u37 u38 u39 u40 u41 u42 u43 lays_10 lays_11 lays_12 lays_13 lays_14 lays_15 lays_16 lays_17 lays_18 lays_19 lays_20 lays_21 lays_22 lays_23 lays_24 lays_25 lays_26 lays_27 lays_28 lays_29 lays_30 lays_31 lays_32 lays_33 lays_34 lays_35 lays_36 lays_37 lays_38 lays_39 lays_40 lays_41 lays_42 lays_43 lays_44 lays_45 lays_46 lays_47 lays_48 lays_49 lays_50 lays_51 lays_52 lays_53 lays_54 lays_55 lays_56 lays_57 u92 u93 u94 u95 u96 u97 u98 u99 u100 u101 u102 u103 u104 u105 u106 u107 u108 u109 u110 u111 u112 u113 u114 u115 u116 u117 u118 u119 u120 u121 u122 u123 u124 u125 u126 u127 u128 u129 wi i P Q ts hi lP lQ lT hin ti ti0 e5 hbl HL hN hN0 tN0 hbA lays_58 lays_59 lays_60 lays_61 lays_62 lays_63 tN u5 u6 u7 u11 u12 u13 u44 u45 u46 u47 u48 u49 u50 u51 u52 u53 u54 u55 u56 u57 u58 u59 u60 u61 u62 u63 u64 u65 u66 u67 u68 u69 u70 u71 u72 u73 u74 u75 u76 u77 u78 u79 u80 u81 u82 u83 u84 u85 u86 u87 u88 u89 u90 u91 wk k P' Q' ts' hk lP' lQ' lT' HLY hkN tk tk0 ek x0 x1 x2 HX2 laysp_1 laysp_2 laysp_3 w2 s t kd hls HPG laysp_4 laysp_5 W3 H3 g HT laysp_6 laysp_7 laysp_8 laysp_9
  by_cases hk0 : k = 0
  · subst hk0
    have hl := HLY.out
    rw [if_pos rfl] at hl
    have HLY2 := Lib.hid hl
    clear hl HLY
    go_wp2_with fail
    go_meet
    case rel => exact ⟨P', Q', H3.out, Or.inl HLY2.out.1, Or.inl HLY2.out.2, by omega, by omega, HT.out⟩
  · have hl := HLY.out
    rw [if_neg hk0] at hl
    have HLY2 := Lib.hid hl
    have tk1 : (0 : Int) < (k : Int) := by omega
    clear hl HLY
    go_wp2_with (at_builtin; refine wp_plain1 rfl _ _ rfl 32 rfl H3.out rfl rfl (by omega) ?_)
    intro v5 w5 h5 t5
    have H5 := Lib.hid h5
    have HT5 := Lib.hid (t5 _ _ HT.out)
    clear h5 t5 HT H3
    go_wp2_with (at_builtin; refine wp_loose1 rfl _ _ rfl 32 rfl H5.out rfl rfl (by omega) ?_)
    intro v6 w6 h6 t6
    have H6 := Lib.hid h6
    have HT6 := Lib.hid (t6 _ _ HT5.out)
    clear h6 t6 HT5 H5
    go_wp2_with fail
    go_loopw [6, 13] (fun vl nv wr => ∃ (m : Nat) (Q2 : List UInt8), m ≤ 9 ∧ nv = .int .i64 (m : Int) ∧ L3 w wr v5 vl u7 (P' ++ [32]) Q2 ts' ∧ Lb Q2 (ts'.map kt) ∧ Q2.length = Q'.length + 1 + m ∧ wr.heap[g]? = some (.cells #[.int .i64 (kd : Int), .string ⟨t.toArray⟩, .int .i64 0] 29)) (fun _ nv _ => 9 - (intOf nv).toNat)
    case atStart => exact ⟨0, Q' ++ [32], by omega, rfl, H6.out, HLY2.out.2.blank, by simp, HT6.out⟩
    case round =>
      clear H6 HT6
      obtain ⟨wm, hwm⟩ : ∃ y, y = wr := ⟨_, rfl⟩
      subst hwm
      obtain ⟨m, Q2, hm, rfl, h3, hQ2, lQ2, hT⟩ := hrel
      have cx := HX2.out wm h3.b
      have H7 := Lib.hid h3
      have HT7 := Lib.hid hT
      have HQ7 := Lib.hid hQ2
      have em : IntKind.i64.wrap ((m : Int) + 1) = ((m + 1 : Nat) : Int) := by rw [i64_small (by omega) (by omega)]; omega
      clear h3 hT hQ2
      by_cases hmx : (m : Int) < x2
      · by_cases hm9 : m < 9
        · have tm9 : (m : Int) < 9 := by omega
          go_wp2_with (at_builtin; refine wp_loose1 rfl _ _ rfl 32 rfl H7.out rfl rfl (by omega) ?_)
          intro v8 w8 h8 t8
          have H8 := Lib.hid h8
          have HT8 := Lib.hid (t8 _ _ HT7.out)
          clear h8 t8 HT7 H7
          go_wp2_with fail
          go_roundw
          case rel => exact ⟨m + 1, Q2 ++ [32], by omega, rfl, H8.out, HQ7.out.blank, by simp; omega, HT8.out⟩
          case measure => simp [intOf]; omega
        · have tm9 : ¬ (m : Int) < 9 := by omega
          go_wp2_with fail
          go_meet
          case rel => exact ⟨P' ++ [32], Q2, H7.out, Or.inr HLY2.out.1.blank, Or.inr HQ7.out, by simp, by omega, HT7.out⟩
      · go_wp2_with fail
        go_meet
        case rel => exact ⟨P' ++ [32], Q2, H7.out, Or.inr HLY2.out.1.blank, Or.inr HQ7.out, by simp, by omega, HT7.out⟩
end Lx
end Go.Proofs.YtgillafjccgkdaaDoor
