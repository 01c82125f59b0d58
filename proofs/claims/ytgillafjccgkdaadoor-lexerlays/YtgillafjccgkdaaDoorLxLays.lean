/-
  LexerLays, walked but for some places.
-/
import Derived.Test.YtgillafjccgkdaaDoorLyc
import Derived.Deep.CutRange
namespace Go.Proofs.YtgillafjccgkdaaDoor
open Go.RowKit Go.WideShapes
namespace Lx

set_option maxRecDepth 100000 in
set_option maxHeartbeats 20000000 in
def lays_cut : (P_piece : Prop) ×' (P_fin : Prop) ×' (P_end : Prop) ×' (Bx P_piece → Bx P_fin → Bx P_end → (∀ (a : Option Addr) (n c : Nat) (A : Nat → Option Addr) (N C : Nat → Nat) (X : Nat → Nat → Nat → Int) (b off : Nat) (b' off' : Nat → Nat) (ra : Option Addr) (rn rc : Nat) (rb ro : Nat) (R : Nat → Int) (w : World), Lns w a n A N C X b off b' off' → (0 < rn → ra = some ⟨rb, ro, none⟩ ∧ rb < w.heap.size) → (∀ j, j < rn → w.cell? ⟨rb, ro + j, none⟩ = some (.int .i64 (R j))) → (∀ (x0 x1 x2 : Int) (V : World), Calls Tryd.prog 5 #[.agg #[.int .i64 x0, .int .i64 x1, .int .i64 x2]] V fun e w' => ∃ (s t : List UInt8) (k : Nat), e = .returned (.tuple #[.string ⟨s.toArray⟩, .agg #[.int .i64 (k : Int), .string ⟨t.toArray⟩, .int .i64 0]]) ∧ Pg s k t ∧ s.length ≤ 30 ∧ Below V.heap.size V w') → (∀ (V : World) (vp : Value) (P : List UInt8) (ts : List Tok), Below w.heap.size w V → V.ownsRow w.heap.size 5 1 vp P.length (Lib.byteCells P) → P.length ≤ 65536 → Lex P cf0 (.ok ts) → Calls Tryd.prog 6 #[vp] V fun e w' => ∃ tv, e = .returned (.tuple #[tv, .agg #[.int .i64 0, .int .i64 0]]) ∧ w'.ownsRow V.heap.size 29 3 tv ts.length (tkl ts) ∧ Below V.heap.size V w') → (∀ (V : World) (v1 v2 : Value) (x y : List Tok) (B1 B2 : Nat), V.ownsRow B1 29 3 v1 x.length (tkl x) → V.ownsRow B2 29 3 v2 y.length (tkl y) → x.map kt = y.map kt → Calls Tryd.prog 7 #[v1, v2, .bool false] V fun e w' => e = .returned (.bool true) ∧ Below V.heap.size V w') → (∀ V, Below w.heap.size w V → Calls Tryd.prog 4 #[] V fun e w' => e = .returned (.bool true) ∧ Below V.heap.size V w') → Calls Tryd.prog 3 #[.slice a n c, .slice ra rn rc] w fun e w' => e = .returned (.bool true) ∧ Below w.heap.size w w')) := by
  apply PSigma.mk
  apply PSigma.mk
  apply PSigma.mk
  focus
    intro hp_piece hp_fin hp_end a n c A N C X b off b' off' ra rn rc rb ro R w hL hR hRc CW CT CE CA
    have HL := Lib.hid hL
    have HR := Lib.hid (And.intro hR hRc)
    have HCA := Lib.hid CA
    have HCW := Lib.hid CW
    have HCT := Lib.hid CT
    have HCE := Lib.hid CE
    clear hL hR hRc CA CW CT CE
    by_cases hn : n ≤ 40
    case neg =>
      have tn : (40 : Int) < (n : Int) := by omega
      have CA := HCA.out w (Below.refl _ _)
      go_enter Tryd.func3, Tryd.ntmps3
      go_wp2_with fail
      refine CA.mono ?_
      rintro e wz ⟨rfl, hBz⟩
      clear CA
      go_wp2
      go_ret
      exact ⟨rfl, hBz⟩
    case pos =>
    have tn : ¬ (40 : Int) < (n : Int) := by omega
    by_cases hrn : rn ≤ 100
    case neg =>
      have tr : (100 : Int) < (rn : Int) := by omega
      have CA := HCA.out w (Below.refl _ _)
      go_enter Tryd.func3, Tryd.ntmps3
      go_wp2_with fail
      refine CA.mono ?_
      rintro e wz ⟨rfl, hBz⟩
      clear CA
      go_wp2
      go_ret
      exact ⟨rfl, hBz⟩
    case pos =>
    have tr : ¬ (100 : Int) < (rn : Int) := by omega
    go_enter Tryd.func3, Tryd.ntmps3
    go_wp2_with fail
    go_loopw [5, 6, 7, 8, 9, 10, 11, 12, 13] (fun vp vl vt iv _ _ _ _ _ wr => ∃ (i : Nat) (P Q : List UInt8) (ts : List Tok), i ≤ n ∧ iv = .int .i64 (i : Int) ∧ L3 w wr vp vl vt P Q ts ∧ Ly P (ts.map kt) ∧ Ly Q (ts.map kt) ∧ P.length ≤ 1241 * i ∧ Q.length ≤ 1621 * i ∧ ts.length ≤ 41 * i) (fun _ _ _ iv _ _ _ _ _ _ => n - (intOf iv).toNat)
    case atStart => exact ⟨0, [], [], [], Nat.zero_le _, rfl, L3.new w, ly0, ly0, Nat.zero_le _, Nat.zero_le _, Nat.zero_le _⟩
    case round =>
      obtain ⟨wi, hwi⟩ : ∃ y, y = wr := ⟨_, rfl⟩
      subst hwi
      obtain ⟨i, P, Q, ts, hi, rfl, h3, hP, hQ, lP, lQ, lT⟩ := hrel
      by_cases hin : i < n
      · have ti : (i : Int) < (n : Int) := by omega
        have ti0 : (0 : Int) ≤ (i : Int) := by omega
        have e5 : IntKind.i64.wrap ((i : Int) + 1) = ((i + 1 : Nat) : Int) := by rw [i64_small (by omega) (by omega)]; omega
        obtain ⟨rfl, hbl⟩ := HL.out.at_ (by omega)
        have cl := (h3.b.cell (p := ⟨b, off + i, none⟩) hbl).trans (HL.out.ln i hin)
        have HP := Lib.hid (And.intro hP hQ)
        have H3 := Lib.hid h3
        clear hP hQ h3
        by_cases hN : N i ≤ 40
        case neg =>
          have tN : (40 : Int) < (N i : Int) := by omega
          have CA := HCA.out wi H3.out.b
          go_wp2_with fail
          refine CA.mono ?_
          rintro e wz ⟨rfl, hBz⟩
          clear CA
          go_wp2
          go_ret
          exact ⟨rfl, H3.out.b.trans (hBz.mono H3.out.b.size)⟩
        case pos =>
        have tN : ¬ (40 : Int) < (N i : Int) := by omega
        by_cases hN0 : N i = 0
        · rw [hN0] at cl tN
          go_wp2_with fail
          go_roundw
          case rel => exact ⟨i + 1, P, Q, ts, by omega, rfl, H3.out, HP.out.1, HP.out.2, by omega, by omega, by omega⟩
          case measure => simp [intOf]; omega
        · have tN0 : ¬ (N i : Int) = 0 := by omega
          obtain ⟨hA, hbA⟩ := HL.out.pa i hin (by omega)
          rw [hA] at cl
          clear hA
          go_wp2_with fail
          clear cl
          go_loopw [5, 6, 7, 10, 11, 12, 13] (fun vp vl vt kv _ _ _ wr => ∃ (k : Nat) (P' Q' : List UInt8) (ts' : List Tok), k ≤ N i ∧ kv = .int .i64 (k : Int) ∧ L3 w wr vp vl vt P' Q' ts' ∧ (if k = 0 then Ly P' (ts'.map kt) ∧ Ly Q' (ts'.map kt) else Lm P' (ts'.map kt) ∧ Lm Q' (ts'.map kt)) ∧ P'.length ≤ 1241 * i + 31 * k ∧ Q'.length ≤ 1621 * i + 40 * k ∧ ts'.length ≤ 41 * i + k) (fun _ _ _ kv _ _ _ _ => N i - (intOf kv).toNat)
          case atStart => exact ⟨0, P, Q, ts, Nat.zero_le _, rfl, H3.out, ⟨HP.out.1, HP.out.2⟩, by omega, by omega, by omega⟩
          case round =>
            clear H3 HP
            obtain ⟨wk, hwk⟩ : ∃ y, y = wr := ⟨_, rfl⟩
            subst hwk
            obtain ⟨k, P', Q', ts', hk, rfl, h3, hLy, lP', lQ', lT'⟩ := hrel
            have H3 := Lib.hid h3
            have HLY := Lib.hid hLy
            clear h3 hLy
            by_cases hkN : k < N i
            · have tk : (k : Int) < (N i : Int) := by omega
              rename_i lays_1 lays_2 lays_3 lays_4 lays_5 lays_6 lays_7 lays_8 lays_9 lays_10 lays_11 lays_12 lays_13 lays_14 lays_15 lays_16 lays_17 lays_18 lays_19 lays_20 lays_21 lays_22 lays_23 lays_24 lays_25 lays_26 lays_27 lays_28 lays_29 lays_30 lays_31 lays_32 lays_33 lays_34 lays_35 lays_36 lays_37 lays_38 lays_39 lays_40 lays_41 lays_42 lays_43 lays_44 lays_45 lays_46 lays_47 lays_48 lays_49 lays_50 lays_51 lays_52 lays_53 lays_54 lays_55 lays_56 lays_57 lays_58 lays_59 lays_60 lays_61 lays_62 lays_63
              revert n c A N C X b off b' off' ra rn rc rb ro R w HR HCA HCW HCT HCE hn hrn lays_1 lays_2 lays_3 tn tr u4 lays_4 lays_5 lays_6 u9 u10 lays_7 lays_8 lays_9 u27 u28 u29 u30 u31 u32 u33 u34 u35 u36 u37 u38 u39 u40 u41 u42 u43 lays_10 lays_11 lays_12 lays_13 lays_14 lays_15 lays_16 lays_17 lays_18 lays_19 lays_20 lays_21 lays_22 lays_23 lays_24 lays_25 lays_26 lays_27 lays_28 lays_29 lays_30 lays_31 lays_32 lays_33 lays_34 lays_35 lays_36 lays_37 lays_38 lays_39 lays_40 lays_41 lays_42 lays_43 lays_44 lays_45 lays_46 lays_47 lays_48 lays_49 lays_50 lays_51 lays_52 lays_53 lays_54 lays_55 lays_56 lays_57 u92 u93 u94 u95 u96 u97 u98 u99 u100 u101 u102 u103 u104 u105 u106 u107 u108 u109 u110 u111 u112 u113 u114 u115 u116 u117 u118 u119 u120 u121 u122 u123 u124 u125 u126 u127 u128 u129 wi i P Q ts hi lP lQ lT hin ti ti0 e5 hbl HL hN hN0 tN0 hbA lays_58 lays_59 lays_60 lays_61 lays_62 lays_63 tN u5 u6 u7 u11 u12 u13 u44 u45 u46 u47 u48 u49 u50 u51 u52 u53 u54 u55 u56 u57 u58 u59 u60 u61 u62 u63 u64 u65 u66 u67 u68 u69 u70 u71 u72 u73 u74 u75 u76 u77 u78 u79 u80 u81 u82 u83 u84 u85 u86 u87 u88 u89 u90 u91 wk k P' Q' ts' hk lP' lQ' lT' H3 HLY hkN tk
              exact hp_piece.out
            · have tk : ¬ (k : Int) < (N i : Int) := by omega
              obtain rfl : k = N i := by omega
              have hLm := HLY.out
              rw [if_neg hN0] at hLm
              have HLM := Lib.hid hLm
              clear hLm HLY
              rename_i lays_1 lays_2 lays_3 lays_4 lays_5 lays_6 lays_7 lays_8 lays_9 lays_10 lays_11 lays_12 lays_13 lays_14 lays_15 lays_16 lays_17 lays_18 lays_19 lays_20 lays_21 lays_22 lays_23 lays_24 lays_25 lays_26 lays_27 lays_28 lays_29 lays_30 lays_31 lays_32 lays_33 lays_34 lays_35 lays_36 lays_37 lays_38 lays_39 lays_40 lays_41 lays_42 lays_43 lays_44 lays_45 lays_46 lays_47 lays_48 lays_49 lays_50 lays_51 lays_52 lays_53 lays_54 lays_55 lays_56 lays_57 lays_58 lays_59 lays_60 lays_61 lays_62 lays_63
              revert n c A N C X b off b' off' ra rn rc rb ro R w HR HCA HCW HCT HCE hn hrn lays_1 lays_2 lays_3 tn tr u4 lays_4 lays_5 lays_6 u9 u10 lays_7 lays_8 lays_9 u27 u28 u29 u30 u31 u32 u33 u34 u35 u36 u37 u38 u39 u40 u41 u42 u43 lays_10 lays_11 lays_12 lays_13 lays_14 lays_15 lays_16 lays_17 lays_18 lays_19 lays_20 lays_21 lays_22 lays_23 lays_24 lays_25 lays_26 lays_27 lays_28 lays_29 lays_30 lays_31 lays_32 lays_33 lays_34 lays_35 lays_36 lays_37 lays_38 lays_39 lays_40 lays_41 lays_42 lays_43 lays_44 lays_45 lays_46 lays_47 lays_48 lays_49 lays_50 lays_51 lays_52 lays_53 lays_54 lays_55 lays_56 lays_57 u92 u93 u94 u95 u96 u97 u98 u99 u100 u101 u102 u103 u104 u105 u106 u107 u108 u109 u110 u111 u112 u113 u114 u115 u116 u117 u118 u119 u120 u121 u122 u123 u124 u125 u126 u127 u128 u129 wi i P Q ts hi lP lQ lT hin ti ti0 e5 hbl HL hN hN0 tN0 hbA lays_58 lays_59 lays_60 lays_61 lays_62 lays_63 tN u5 u6 u7 u11 u12 u13 u44 u45 u46 u47 u48 u49 u50 u51 u52 u53 u54 u55 u56 u57 u58 u59 u60 u61 u62 u63 u64 u65 u66 u67 u68 u69 u70 u71 u72 u73 u74 u75 u76 u77 u78 u79 u80 u81 u82 u83 u84 u85 u86 u87 u88 u89 u90 u91 wk P' Q' ts' H3 hk lP' lQ' lT' hkN tk HLM
              exact hp_fin.out
      · have ti : ¬ (i : Int) < (n : Int) := by omega
        obtain rfl : i = n := by omega
        have H3 := Lib.hid h3
        have HP := Lib.hid (And.intro hP hQ)
        clear h3 hP hQ
        rename_i lays_1 lays_2 lays_3
        revert a c A N C X b off b' off' ra rn rc rb ro R w HR HCA HCW HCT HCE hrn lays_1 lays_2 lays_3 tr u4 u5 u6 u7 u9 u10 u11 u12 u13 u27 u28 u29 u30 u31 u32 u33 u34 u35 u36 u37 u38 u39 u40 u41 u42 u43 u44 u45 u46 u47 u48 u49 u50 u51 u52 u53 u54 u55 u56 u57 u58 u59 u60 u61 u62 u63 u64 u65 u66 u67 u68 u69 u70 u71 u72 u73 u74 u75 u76 u77 u78 u79 u80 u81 u82 u83 u84 u85 u86 u87 u88 u89 u90 u91 u92 u93 u94 u95 u96 u97 u98 u99 u100 u101 u102 u103 u104 u105 u106 u107 u108 u109 u110 u111 u112 u113 u114 u115 u116 u117 u118 u119 u120 u121 u122 u123 u124 u125 u126 u127 u128 u129 wi i P Q ts lP lQ lT HL hn tn hi hin ti H3 HP
        exact hp_end.out
end Lx
end Go.Proofs.YtgillafjccgkdaaDoor
