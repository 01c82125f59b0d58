/-
  SharedModel, walked but for eight places: smodel_cut tells what is to be shown at each.
-/
import Derived.Test.YtpigbnlapcndgaaGreatShm
import Derived.Deep.CutBlock
namespace Go.Proofs.YtpigbnlapcndgaaGreat
open Go.RowKit Go.WideShapes

theorem cell_keep {w w' : World} {b o : Nat} {v : Value} (h : w.cell? ⟨b, o, none⟩ = some v) (hb : Below w.heap.size w w') : w'.cell? ⟨b, o, none⟩ = some v := (hb.cell (p := ⟨b, o, none⟩) (lt_of_cell h)).trans h
theorem up3_self {α : Type} (g : Nat → α) (k : Nat) : up3 g k (g k) = g := by
  funext j
  by_cases e : j = k
  · subst e; exact up3_at _ _ _
  · exact up3_ne e
abbrev Sx (w0 : World) (gS gW gV j p : Nat) (wv : Value) (vj : Int) (V : World) : Prop := (V.cell? ⟨gS, j, none⟩ = some (.pointer (some ⟨p, 0, none⟩)) ∧ V.cell? ⟨gW, j, none⟩ = some wv ∧ V.cell? ⟨gV, j, none⟩ = some (.int .i64 vj)) ∧ Below w0.heap.size w0 V
theorem Sx.keep {w0 V V' : World} {gS gW gV j p : Nat} {wv : Value} {vj : Int} (h : Sx w0 gS gW gV j p wv vj V) (hb : Below V.heap.size V V') : Sx w0 gS gW gV j p wv vj V' := ⟨⟨cell_keep h.1.1 hb, cell_keep h.1.2.1 hb, cell_keep h.1.2.2 hb⟩, h.2.trans (hb.mono h.2.size)⟩
abbrev Sy (w0 : World) (gS gW pg j m p : Nat) (wv : Value) (nm : ByteArray) (y : Int) (V : World) : Prop := (V.cell? ⟨gS, j, none⟩ = some (.pointer (some ⟨p, 0, none⟩)) ∧ V.cell? ⟨gW, j, none⟩ = some wv) ∧ (V.cell? ⟨pg, m * 2, none⟩ = some (.string nm) ∧ V.cell? ⟨pg, m * 2 + 1, none⟩ = some (.int .i64 y)) ∧ Below w0.heap.size w0 V
theorem Sy.keep {w0 V V' : World} {gS gW pg j m p : Nat} {wv : Value} {nm : ByteArray} {y : Int} (h : Sy w0 gS gW pg j m p wv nm y V) (hb : Below V.heap.size V V') : Sy w0 gS gW pg j m p wv nm y V' := ⟨⟨cell_keep h.1.1 hb, cell_keep h.1.2 hb⟩, ⟨cell_keep h.2.1.1 hb, cell_keep h.2.1.2 hb⟩, h.2.2.trans (hb.mono h.2.2.size)⟩
theorem M3.more {w : World} {r : R3} {F : Fa} {st : Nat → Stn} {v vv : Nat → Nat} {l : Nat → List (ByteArray × Int)} {c : Nat} {W : World} (h : M3 w r F st v vv l c W) : M3 w r F st v vv l (c + 1) W := by
  obtain ⟨u, XF, X, tag, h⟩ := h
  exact ⟨u, XF, X, tag, h.more⟩
/-- What is left to be shown. -/
structure Bx (P : Prop) : Prop where
  out : P
set_option maxRecDepth 100000 in
set_option maxHeartbeats 20000000 in
def smodel_cut : (P_set1 : Prop) ×' (P_set2 : Prop) ×' (P_del1 : Prop) ×' (P_del2 : Prop) ×' (P_def : Prop) ×' (P_vers : Prop) ×' (P_loop : Prop) ×' (P_last : Prop) ×' (Bx P_set1 → Bx P_set2 → Bx P_del1 → Bx P_del2 → Bx P_def → Bx P_vers → Bx P_loop → Bx P_last → (∀ (m0 m1 : Int) (a : Option Addr) (n c : Nat) (G : Nat → Stp) (w : World), S4 w a n c G → Calls Tryz.prog 3 #[.int .i64 m0, .int .i64 m1, .slice a n c] w fun e w' => e = .returned (.bool true) ∧ Below w.heap.size w w')) := by
  apply PSigma.mk
  apply PSigma.mk
  apply PSigma.mk
  apply PSigma.mk
  apply PSigma.mk
  apply PSigma.mk
  apply PSigma.mk
  apply PSigma.mk
  focus
    intro hp_set1 hp_set2 hp_del1 hp_del2 hp_def hp_vers hp_loop hp_last m0 m1 a n c G w hS
    have CM := much_any hS
    obtain ⟨hcap, b, off, hab, hG⟩ := hS
    have HG := Lib.hid hG
    have HAB := Lib.hid hab
    clear hG hab
    obtain ⟨i1, hi1, hy0, hy1, hy2⟩ := info_parts Tryz.infoSp
    obtain ⟨i2, hi2, hx0, hx1, hx2⟩ := info_parts Tryz.infoPs
    obtain ⟨i3, hi3, hw0, hw1, hw2⟩ := info_parts Tryz.infoI3
    by_cases hm : 0 ≤ m0 ∧ m0 ≤ 256 ∧ 0 ≤ m1 ∧ m1 ≤ 1000
    case neg =>
      have CA := awake10_any w
      go_enter Tryz.func3, Tryz.ntmps3
      go_wp2_with fail
      refine CM.mono ?_
      rintro e w0 ⟨mb, rfl, hw0, hmu⟩
      rw [hw0]
      clear CM hw0
      cases mb with
      | true =>
        go_wp2_with fail
        refine CA.mono ?_
        rintro e w9 ⟨rfl, hB9⟩
        clear CA
        go_wp2
        go_ret
        exact ⟨rfl, hB9⟩
      | false =>
        by_cases q0 : m0 < 0
        · go_wp2_with fail
          refine CA.mono ?_
          rintro e w9 ⟨rfl, hB9⟩
          clear CA
          go_wp2
          go_ret
          exact ⟨rfl, hB9⟩
        by_cases q1 : 256 < m0
        · go_wp2_with fail
          refine CA.mono ?_
          rintro e w9 ⟨rfl, hB9⟩
          clear CA
          go_wp2
          go_ret
          exact ⟨rfl, hB9⟩
        by_cases q2 : m1 < 0
        · go_wp2_with fail
          refine CA.mono ?_
          rintro e w9 ⟨rfl, hB9⟩
          clear CA
          go_wp2
          go_ret
          exact ⟨rfl, hB9⟩
        have q3 : 1000 < m1 := by omega
        go_wp2_with fail
        refine CA.mono ?_
        rintro e w9 ⟨rfl, hB9⟩
        clear CA
        go_wp2
        go_ret
        exact ⟨rfl, hB9⟩
    case pos =>
      obtain ⟨p0, p1, p2, p3⟩ := hm
      obtain ⟨M0, rfl⟩ : ∃ k : Nat, m0 = (k : Int) := ⟨m0.toNat, by omega⟩
      obtain ⟨M1, rfl⟩ : ∃ k : Nat, m1 = (k : Int) := ⟨m1.toNat, by omega⟩
      have q0 : ¬ ((M0 : Int) < 0) := by omega
      have q1 : ¬ (256 < (M0 : Int)) := by omega
      have q2 : ¬ ((M1 : Int) < 0) := by omega
      have q3 : ¬ (1000 < (M1 : Int)) := by omega
      clear p0 p2
      go_enter Tryz.func3, Tryz.ntmps3
      go_wp2_with fail
      refine CM.mono ?_
      rintro e w0 ⟨mb, rfl, hw0, hmu⟩
      rw [hw0]
      clear CM hw0
      cases mb with
      | true =>
        have CA := awake10_any w
        go_wp2_with fail
        refine CA.mono ?_
        rintro e w9 ⟨rfl, hB9⟩
        clear CA
        go_wp2
        go_ret
        exact ⟨rfl, hB9⟩
      | false =>
        obtain ⟨hn, hsz⟩ := hmu rfl
        have HSZ := Lib.hid hsz
        clear hsz hmu
        have CN : Calls Tryz.prog 6 #[.int .i64 (M0 : Int), .int .i64 (M1 : Int), .pointer none] w fun e w' => ∃ f XF, e = .returned (.tuple #[.pointer (some ⟨f, 0, none⟩), .int .i64 0]) ∧ FamX w' f ⟨[], Tb.new, M0, M1⟩ (.pointer none) XF ∧ (∀ k, XF k → w.heap.size ≤ k) ∧ no4 (0 + 1) 0 0 0 w' ∧ Ex (mB (.pointer none)) w w' := shnew_any (N := no4) (a := 0) (b := 0) (c := 0) (d := 0) m4_nil trivial (by omega) M0 M1 (by omega) (by omega)
        go_wp2_with fail
        refine CN.mono ?_
        rintro e w1 ⟨f, XF, rfl, hF1, hX1, _, hx1⟩
        clear CN
        have h1 := eqFa f
        have HM : Hid (Mk3 w f 0 ⟨[], Tb.new, M0, M1⟩ (.slice none 0 0) (.slice none 0 0) (.slice none 0 0) w1) := ⟨fun _ => 0, XF, fun _ _ => False, fun k => 0, by omega, hF1, fun j hj => absurd hj (by omega), fa_new hsT (by omega) (by omega), fun j hj => absurd hj (by omega), fun j hj => absurd hj (by omega), World.ownsRow_nil _ _ _ _, World.ownsRow_nil _ _ _ _, World.ownsRow_nil _ _ _ _, fun k hk => ⟨rfl, hX1 k hk⟩, fun j hj => absurd hj (by omega), fun j hj => absurd hj (by omega), fun k hk => (by cases hk), fun k hk => (by cases hk), fun k hk => (by cases hk), hx1.below (fun k hk => (noMet hk).elim) (Nat.le_refl _)⟩
        clear hF1 hX1 hx1
        go_wp2_with fail
        clear h1
        go_loopw [9, 10, 11, 12] (fun vS vW vV iv wr => ∃ i : Nat, i ≤ 3 ∧ iv = .int .i64 (i : Int) ∧ Mk3 w f i ⟨[], Tb.new, M0, M1⟩ vS vW vV wr) (fun _ _ _ iv _ => 3 - (intOf iv).toNat)
        case atStart => exact ⟨0, by omega, rfl, HM.out⟩
        case round vS vW vV iv wr =>
          clear HM
          obtain ⟨i, hi, rfl, hM⟩ := hrel
          by_cases hlt : i < 3
          · have ti : (i : Int) < 3 := by omega
            have e5 : IntKind.i64.wrap ((i : Int) + 1) = ((i + 1 : Nat) : Int) := by rw [i64_small (by omega) (by omega)]; omega
            have CK := hM.make hlt
            clear hM
            go_wp2_with fail
            refine CK.mono ?_
            rintro e w2 ⟨s, rfl, hK⟩
            clear CK
            obtain ⟨ls, hrS, HKS⟩ := hK.rowS
            have hs2 := hK.rows.2.2
            have HKS := Lib.hid HKS
            clear hK
            go_wp2_with (at_builtin; refine wpList3_append_own rfl _ _ 29 rfl w.heap.size 32 i1 (.pointer none) 1 8 Tryz.underlying29 hi1 hy0 hy1 hy2 rfl (by decide) _ _ _ rfl (World.ownsRow.alloc hrS _) ⟨w2.heap.size, 0, none⟩ 1 1 [.pointer (some ⟨s, 0, none⟩)] rfl rfl (new_one _ _ _) (by simp [Value.oneCell']) (by unfold maxLen; omega) (by omega) (by simp; omega) ?_)
            intro v1 w3 g1 g2 g3
            obtain ⟨hK, gS, cS, rfl, lS⟩ := HKS.out _ _ _ g1 g2 (by simpa using g3)
            clear HKS g1 g2 g3 hrS
            obtain ⟨hrW, -, hs3⟩ := hK.rows
            have HK := Lib.hid hK
            clear hK
            go_wp2_with (at_builtin; refine wpList3_append_own rfl _ _ 30 rfl w.heap.size 36 i2 (.slice none 0 0) 1 24 Tryz.underlying30 hi2 hx0 hx1 hx2 rfl (by decide) _ _ _ rfl (World.ownsRow.alloc hrW _) ⟨w3.heap.size, 0, none⟩ 1 1 [.slice none 0 0] rfl rfl (new_one _ _ _) (by simp [Value.oneCell']) (by unfold maxLen; omega) (by omega) (by simp; omega) ?_)
            intro v2 w4 g1 g2 g3
            have hK := HK.out.rowW g1 g2 (by simpa using g3)
            clear HK g1 g2 g3 hrW
            obtain ⟨-, hrV, hs4⟩ := hK.rows
            have HK := Lib.hid hK
            clear hK
            go_wp2_with (at_builtin; refine wpList3_append_own rfl _ _ 31 rfl w.heap.size 3 i3 (.int .i64 0) 1 8 Tryz.underlying31 hi3 hw0 hw1 hw2 rfl (by decide) _ _ _ rfl (World.ownsRow.alloc hrV _) ⟨w4.heap.size, 0, none⟩ 1 1 [.int .i64 0] rfl rfl (new_one _ _ _) (by simp [Value.oneCell']) (by unfold maxLen; omega) (by omega) (by simp; omega) ?_)
            intro v3 w5 g1 g2 g3
            obtain ⟨hM, cc⟩ := (HK.out.rowV g1 g2 (by simpa using g3)).done
            clear HK g1 g2 g3 hrV
            have HM := Lib.hid hM
            have h2 := eqSp s
            have tj : (i : Int) < ((i + 1 : Nat) : Int) := by omega
            clear hM
            go_wp2_with fail
            go_roundw
            case rel => exact ⟨i + 1, by omega, rfl, HM.out⟩
            case measure => simp [intOf]; omega
          · obtain rfl : i = 3 := by omega
            have ti : ¬ ((3 : Nat) : Int) < 3 := by omega
            obtain ⟨r, rfl, rfl, rfl, rfl, hM2⟩ := hM.full
            have HM := Lib.hid hM2
            clear hM hM2 hi1 hi2 hi3 hy0 hy1 hy2 hx0 hx1 hx2 hw0 hw1 hw2
            go_wp2_with fail
            go_loopw [13, 14, 15, 16, 17, 18] (fun iv _ _ _ _ _ wr => ∃ (i : Nat) (F : Fa) (st : Nat → Stn) (v : Nat → Nat), i ≤ n ∧ iv = .int .i64 (i : Int) ∧ F.most = M1 ∧ (∀ j, v j ≤ i) ∧ M3 w r F st v v (fun j => prsS F (st j)) i wr) (fun iv _ _ _ _ _ _ => n - (intOf iv).toNat)
            case atStart => exact ⟨0, ⟨[], Tb.new, M0, M1⟩, fun _ => .row [], fun _ => 0, Nat.zero_le _, rfl, rfl, fun _ => Nat.zero_le _, HM.out⟩
            case round =>
              clear HM
              obtain ⟨i, F, st, v, hi, rfl, hmo, hv, hM⟩ := hrel
              by_cases hlt : i < n
              · obtain ⟨rfl, hbl⟩ := HAB.out (by omega)
                have ti : (i : Int) < (n : Int) := by omega
                have e5 : IntKind.i64.wrap ((i : Int) + 1) = ((i + 1 : Nat) : Int) := by rw [i64_small (by omega) (by omega)]; omega
                have hBw : Below w.heap.size w wr := hM.hb
                obtain ⟨g0, g1, g2, g3⟩ := HG.out i hlt
                have c0 : wr.cell? ⟨b, off + i * 4, none⟩ = some (.int .i64 (G i).kind) := (hBw.cell (p := ⟨b, off + (i * 4 + 0), none⟩) hbl).trans g0
                have c1 : wr.cell? ⟨b, off + i * 4 + 1, none⟩ = some (.int .i64 (G i).s) := (hBw.cell (p := ⟨b, off + (i * 4 + 1), none⟩) hbl).trans g1
                have c2 : wr.cell? ⟨b, off + i * 4 + 2, none⟩ = some (.string (G i).name) := (hBw.cell (p := ⟨b, off + (i * 4 + 2), none⟩) hbl).trans g2
                have c3 : wr.cell? ⟨b, off + i * 4 + 3, none⟩ = some (.int .i64 (G i).value) := (hBw.cell (p := ⟨b, off + (i * 4 + 3), none⟩) hbl).trans g3
                have hnm := HSZ.out i hlt
                generalize (G i).kind = x0 at c0
                generalize (G i).s = x1 at c1
                generalize (G i).name = nm at c2 hnm
                generalize (G i).value = x3 at c3
                clear g0 g1 g2 g3 hBw
                obtain ⟨wx, hwx⟩ : ∃ y, wr.alloc (.cells #[.int .i64 x0, .int .i64 x1, .string nm, .int .i64 x3] 35) = y := ⟨_, rfl⟩
                have hX : Blk wx wr.heap.size 4 (fun j => #[Value.int .i64 x0, .int .i64 x1, .string nm, .int .i64 x3].getD j .nilFunc) := by rw [← hwx]; exact Blk.new wr _ _
                have hBx : Below wr.heap.size wr wx := by rw [← hwx]; exact (Below.refl _ wr).alloc (Nat.le_refl _) _
                have HX := Lib.hid hX
                have HBX := Lib.hid hBx
                have HWX := Lib.hid hwx
                have HM := Lib.hid hM
                clear hwx hX hBx hM
                go_upto_region 21 with fail
                rw [HWX.out]
                clear HWX c0 c1 c2 c3
                obtain ⟨k, hk3, hkm⟩ : ∃ k : Nat, k < 3 ∧ (if Int.tmod x1 3 < 0 then Int.tmod x1 3 + 3 else Int.tmod x1 3) = (k : Int) := by
                  have h1 : Int.tmod x1 3 < 3 := Int.tmod_lt_of_pos _ (by decide)
                  have h2 : -3 < Int.tmod x1 3 := Int.lt_tmod_of_pos _ (by decide)
                  split
                  · exact ⟨(Int.tmod x1 3 + 3).toNat, by omega, by omega⟩
                  · exact ⟨(Int.tmod x1 3).toNat, by omega, by omega⟩
                have u1 : wx.cell? ⟨wr.heap.size, 1, none⟩ = some (.int .i64 x1) := HX.out.c 1 (by omega)
                go_upto_if 88 with fail
                go_cut [15] from 74 to 208 (fun kv wc => kv = .int .i64 (k : Int) ∧ wc = wx)
                case first =>
                  by_cases tn : x1.tmod 3 < 0
                  · rw [if_pos tn] at hkm
                    have e6 : IntKind.i64.wrap (x1.tmod 3 + 3) = (k : Int) := by rw [i64_small (by omega) (by omega)]; exact hkm
                    go_wp2_with fail
                    go_meet
                    case rel => exact ⟨rfl, rfl⟩
                  · rw [if_neg tn] at hkm
                    go_wp2_with fail
                    go_meet
                    case rel => exact ⟨rfl, rfl⟩
                case rest =>
                  obtain ⟨rfl, rfl⟩ := hcut
                  have hMx := HM.out.keep HBX.out
                  have hvk := hv k
                  obtain ⟨ak, ck, z1, z2, z3, -, CSh, -, -, -⟩ := hMx.look hk3 (by omega)
                  have hfew := hMx.few (by omega) hk3
                  have tk : (k : Int) < 3 := by omega
                  have u0 : wc.cell? ⟨wr.heap.size, 0, none⟩ = some (.int .i64 x0) := HX.out.c 0 (by omega)
                  clear u1 hMx hkm
                  go_wp2_with fail
                  refine CSh.mono ?_
                  rintro e w2 ⟨rfl, hw2⟩
                  rw [hw2]
                  clear CSh hw2
                  obtain ⟨wq, hwq⟩ : ∃ y, y = wc := ⟨_, rfl⟩
                  subst hwq
                  go_upto_block 4 with fail
                  go_cut [16] from 74 to 208 (fun ov wd => ∃ (F' : Fa) (st' : Nat → Stn) (er : Int), ov = .bool (decide (er = 0)) ∧ F'.most = M1 ∧ (isRow (st' k) = true → isRow (st k) = true) ∧ M3 w r F' st' (up3 v k (if er = 0 then v k + 1 else v k)) v (fun j => prsS F' (st' j)) (i + 1) wd)
                  case first =>
                    by_cases h01 : x0 = 1
                    · subst h01
                      obtain ⟨ka, kn, kc, d1, d2, dS⟩ := HM.out.wantN (W := wq.drew) HBX.out.drew hk3 hfew
                      have CS := (dS (nm := nm)).1 x3 M1
                      have d3 : wq.drew.cell? ⟨wr.heap.size, 2, none⟩ = some (.string nm) := HX.out.c 2 (by omega)
                      have d4 : wq.drew.cell? ⟨wr.heap.size, 3, none⟩ = some (.int .i64 x3) := HX.out.c 3 (by omega)
                      clear dS
                      go_upto_region 29 with fail
                      go_cut [16] from 74 to 208 (fun ov wd => ∃ (l' : List (ByteArray × Int)) (er : Int), ov = .bool (decide (er = 0)) ∧ MsR (prsS F (st k)) nm x3 M1 l' er ∧ (∀ b j, wr.heap.size ≤ b → b < wq.heap.size → wd.cell? ⟨b, j, none⟩ = wq.cell? ⟨b, j, none⟩) ∧ M3n w r F st v v (up3 (fun j => prsS F (st j)) k l') i wr.heap.size wq.heap.size wd)
                      case first =>
                        rename_i smodel_1 smodel_2 smodel_3 smodel_4 smodel_5 smodel_6 smodel_7 smodel_8 smodel_9 smodel_10 smodel_11 smodel_12 smodel_13 smodel_14 smodel_15 smodel_16 smodel_17 smodel_18 smodel_19 smodel_20 smodel_21 smodel_22 smodel_23 smodel_24 smodel_25 smodel_26 smodel_27 smodel_28 smodel_29 smodel_30 smodel_31 smodel_32 smodel_33 smodel_34 smodel_35 smodel_36 smodel_37 smodel_38 smodel_39 smodel_40 smodel_41 smodel_42 smodel_43 smodel_44 smodel_45 smodel_46 smodel_47 smodel_48 smodel_49 smodel_50 smodel_51 smodel_52 smodel_53 smodel_54 smodel_55 smodel_56 smodel_57 smodel_58 smodel_59 smodel_60 smodel_61 smodel_62 smodel_63 smodel_64 smodel_65 smodel_66 smodel_67 smodel_68 smodel_69 smodel_70 smodel_71 smodel_72 smodel_73 smodel_74 smodel_75 smodel_76 smodel_77 smodel_78 smodel_79 smodel_80 smodel_81 smodel_82 smodel_83 smodel_84 smodel_85 smodel_86 smodel_87 smodel_88 smodel_89 smodel_90 smodel_91 smodel_92 smodel_93 smodel_94 smodel_95 smodel_96 smodel_97 smodel_98 smodel_99 smodel_100 smodel_101 smodel_102 smodel_103 smodel_104 smodel_105 smodel_106 smodel_107 smodel_108 smodel_109 smodel_110 smodel_111 smodel_112 smodel_113 smodel_114 smodel_115 smodel_116 smodel_117 smodel_118 smodel_119 smodel_120 smodel_121 smodel_122 smodel_123 smodel_124 smodel_125 smodel_126 smodel_127 smodel_128 smodel_129 smodel_130 smodel_131 smodel_132 smodel_133 smodel_134 smodel_135 smodel_136 smodel_137 smodel_138 smodel_139 smodel_140 smodel_141 smodel_142 smodel_143 smodel_144 smodel_145 smodel_146 smodel_147 smodel_148 smodel_149 smodel_150 smodel_151 smodel_152 smodel_153 smodel_154 smodel_155 smodel_156 smodel_157 smodel_158 smodel_159 smodel_160
                        revert n c G w hcap b off HG i1 i2 i3 M0 p1 M1 p3 vS q0 q1 q2 q3 w0 hn HSZ vW w1 XF vV iv smodel_1 smodel_2 u54 u55 u56 u57 u58 u59 u60 u61 u62 u63 u64 u65 u66 u67 u68 u69 u70 u71 u72 u73 smodel_3 smodel_4 r smodel_5 smodel_6 smodel_7 smodel_8 wr u6 u14 u15 u16 u17 u18 smodel_9 smodel_10 smodel_11 smodel_12 smodel_13 smodel_14 smodel_15 smodel_16 smodel_17 smodel_18 smodel_19 smodel_20 smodel_21 smodel_22 smodel_23 smodel_24 smodel_25 smodel_26 smodel_27 smodel_28 smodel_29 smodel_30 smodel_31 smodel_32 smodel_33 smodel_34 smodel_35 smodel_36 smodel_37 smodel_38 smodel_39 smodel_40 smodel_41 smodel_42 smodel_43 smodel_44 smodel_45 smodel_46 smodel_47 smodel_48 smodel_49 smodel_50 smodel_51 smodel_52 smodel_53 smodel_54 smodel_55 smodel_56 smodel_57 smodel_58 smodel_59 smodel_60 smodel_61 smodel_62 smodel_63 smodel_64 smodel_65 smodel_66 smodel_67 smodel_68 smodel_69 smodel_70 smodel_71 smodel_72 smodel_73 smodel_74 smodel_75 smodel_76 smodel_77 smodel_78 smodel_79 smodel_80 smodel_81 smodel_82 smodel_83 smodel_84 smodel_85 smodel_86 smodel_87 smodel_88 smodel_89 smodel_90 smodel_91 smodel_92 smodel_93 smodel_94 smodel_95 smodel_96 smodel_97 smodel_98 smodel_99 smodel_100 smodel_101 smodel_102 smodel_103 smodel_104 smodel_105 smodel_106 smodel_107 smodel_108 smodel_109 smodel_110 smodel_111 smodel_112 smodel_113 smodel_114 smodel_115 smodel_116 smodel_117 smodel_118 smodel_119 smodel_120 smodel_121 smodel_122 smodel_123 smodel_124 smodel_125 smodel_126 smodel_127 smodel_128 smodel_129 smodel_130 smodel_131 smodel_132 smodel_133 smodel_134 smodel_135 smodel_136 smodel_137 smodel_138 smodel_139 smodel_140 smodel_141 smodel_142 smodel_143 i F st v hi hmo hv hlt hbl smodel_144 smodel_145 ti e5 x1 nm hnm x3 HM smodel_146 smodel_147 smodel_148 k hk3 u74 u75 u76 u77 u78 u79 u80 u81 u82 u83 u84 u85 u86 u87 u88 u89 u90 u91 u92 u93 u94 u95 u96 u97 u98 u99 u100 u101 u102 u103 u104 u105 u106 u107 u108 u109 u110 u111 u112 u113 u114 u115 u116 u117 u118 u119 u120 u121 u122 u123 u124 u125 u126 u127 u128 u129 u130 u131 u132 u133 u134 u135 u136 u137 u138 u139 u140 u141 u142 u143 u144 u145 u146 u147 u148 u149 u150 u151 u152 u153 u154 u155 u156 u157 u158 u159 u160 u161 u162 u163 u164 u165 u166 u167 u168 u169 u170 u171 u172 u173 u174 u175 u176 u177 u178 u179 u180 u181 u182 u183 u184 u185 u186 u187 u188 u189 u190 u191 u192 u193 u194 u195 u196 u197 u198 u199 u200 u201 u202 u203 u204 u205 u206 u207 u208 hvk ak ck hfew tk HAB w2 wq HBX z1 z2 z3 smodel_149 smodel_150 smodel_151 smodel_152 smodel_153 smodel_154 HX u0 ka kn kc d1 d2 CS d3 d4 smodel_155 smodel_156 smodel_157 smodel_158 smodel_159 smodel_160
                        exact hp_set1.out

                      case rest =>
                        clear hp_set1
                        obtain ⟨wd, hwd⟩ : ∃ y, y = wc := ⟨_, rfl⟩
                        subst hwd
                        obtain ⟨l', er, rfl, hms, hcl, hM3⟩ := hcut
                        rw [← hmo] at hms
                        have CS2 := (hM3.keep ((Below.refl _ wd).drew)).set hk3 hms (by omega) (by omega) (by omega)
                        obtain ⟨za, zc, f1, -, -, -, -, -, -, -⟩ := hM3.m3.look hk3 (by omega)
                        have hlx : wr.heap.size < wq.heap.size := lt_of_cell u0
                        have f2 : wd.cell? ⟨wr.heap.size, 2, none⟩ = some (.string nm) := (hcl _ 2 (Nat.le_refl _) hlx).trans (HX.out.c 2 (by omega))
                        have f3 : wd.cell? ⟨wr.heap.size, 3, none⟩ = some (.int .i64 x3) := (hcl _ 3 (Nat.le_refl _) hlx).trans (HX.out.c 3 (by omega))
                        have hvb : ∀ e : Int, up3 v k (if e = 0 then v k + 1 else v k) k ≤ 1000 := fun e => by rw [up3_at]; split <;> omega
                        clear hms hcl hM3 d1 d2 d3 d4 CS u0
                        go_upto_region 30 with fail
                        rename_i smodel_1 smodel_2 smodel_3 smodel_4 smodel_5 smodel_6 smodel_7 smodel_8 smodel_9 smodel_10 smodel_11 smodel_12 smodel_13 smodel_14 smodel_15 smodel_16 smodel_17 smodel_18 smodel_19 smodel_20 smodel_21 smodel_22 smodel_23 smodel_24 smodel_25 smodel_26 smodel_27 smodel_28 smodel_29 smodel_30 smodel_31 smodel_32 smodel_33 smodel_34 smodel_35 smodel_36 smodel_37 smodel_38 smodel_39 smodel_40 smodel_41 smodel_42 smodel_43 smodel_44 smodel_45 smodel_46 smodel_47 smodel_48 smodel_49 smodel_50 smodel_51 smodel_52 smodel_53 smodel_54 smodel_55 smodel_56 smodel_57 smodel_58 smodel_59 smodel_60 smodel_61 smodel_62 smodel_63 smodel_64 smodel_65 smodel_66 smodel_67 smodel_68 smodel_69 smodel_70 smodel_71 smodel_72 smodel_73 smodel_74 smodel_75 smodel_76 smodel_77 smodel_78 smodel_79 smodel_80 smodel_81 smodel_82 smodel_83 smodel_84 smodel_85 smodel_86 smodel_87 smodel_88 smodel_89 smodel_90 smodel_91 smodel_92 smodel_93 smodel_94 smodel_95 smodel_96 smodel_97 smodel_98 smodel_99 smodel_100 smodel_101 smodel_102 smodel_103 smodel_104 smodel_105 smodel_106 smodel_107 smodel_108 smodel_109 smodel_110 smodel_111 smodel_112 smodel_113 smodel_114 smodel_115 smodel_116 smodel_117 smodel_118 smodel_119 smodel_120 smodel_121 smodel_122 smodel_123 smodel_124 smodel_125 smodel_126 smodel_127 smodel_128 smodel_129 smodel_130 smodel_131 smodel_132 smodel_133 smodel_134 smodel_135 smodel_136 smodel_137 smodel_138 smodel_139 smodel_140 smodel_141 smodel_142 smodel_143 smodel_144 smodel_145 smodel_146 smodel_147 smodel_148 smodel_149 smodel_150 smodel_151 smodel_152 smodel_153 smodel_154 smodel_155 smodel_156 smodel_157 smodel_158 smodel_159 smodel_160 smodel_161 smodel_162 smodel_163 smodel_164 smodel_165 smodel_166 smodel_167 smodel_168 smodel_169 smodel_170 smodel_171 smodel_172 smodel_173 smodel_174 smodel_175 smodel_176 smodel_177 smodel_178 smodel_179 smodel_180 smodel_181 smodel_182 smodel_183 smodel_184 smodel_185 smodel_186 smodel_187 smodel_188 smodel_189 smodel_190 smodel_191 smodel_192 smodel_193 smodel_194 smodel_195 smodel_196 smodel_197 smodel_198 smodel_199 smodel_200 smodel_201 smodel_202 smodel_203 smodel_204 smodel_205 smodel_206 smodel_207 smodel_208 smodel_209 smodel_210 smodel_211 smodel_212 smodel_213 smodel_214 smodel_215 smodel_216 smodel_217 smodel_218 smodel_219 smodel_220 smodel_221 smodel_222 smodel_223 smodel_224 smodel_225 smodel_226 smodel_227 smodel_228 smodel_229 smodel_230 smodel_231 smodel_232 smodel_233 smodel_234 smodel_235 smodel_236 smodel_237 smodel_238 smodel_239 smodel_240 smodel_241 smodel_242 smodel_243 smodel_244 smodel_245 smodel_246 smodel_247 smodel_248 smodel_249 smodel_250 smodel_251 smodel_252 smodel_253 smodel_254 smodel_255 smodel_256 smodel_257 smodel_258 smodel_259 smodel_260 smodel_261 smodel_262 smodel_263 smodel_264 smodel_265 smodel_266 smodel_267 smodel_268 smodel_269 smodel_270 smodel_271 smodel_272 smodel_273 smodel_274 smodel_275 smodel_276 smodel_277 smodel_278 smodel_279 smodel_280 smodel_281 smodel_282 smodel_283 smodel_284 smodel_285 smodel_286 smodel_287 smodel_288 smodel_289 smodel_290 smodel_291
                        revert n c G w hcap b off HG i1 i2 i3 M0 p1 M1 p3 vS q0 q1 q2 q3 w0 hn HSZ vW w1 XF vV iv smodel_1 smodel_2 u54 u55 u56 u57 u58 u59 u60 u61 u62 u63 u64 u65 u66 u67 u68 u69 u70 u71 u72 u73 smodel_3 smodel_4 r smodel_5 smodel_6 smodel_7 smodel_8 wr u6 u14 u15 u16 u17 u18 smodel_9 smodel_10 smodel_11 smodel_12 smodel_13 smodel_14 smodel_15 smodel_16 smodel_17 smodel_18 smodel_19 smodel_20 smodel_21 smodel_22 smodel_23 smodel_24 smodel_25 smodel_26 smodel_27 smodel_28 smodel_29 smodel_30 smodel_31 smodel_32 smodel_33 smodel_34 smodel_35 smodel_36 smodel_37 smodel_38 smodel_39 smodel_40 smodel_41 smodel_42 smodel_43 smodel_44 smodel_45 smodel_46 smodel_47 smodel_48 smodel_49 smodel_50 smodel_51 smodel_52 smodel_53 smodel_54 smodel_55 smodel_56 smodel_57 smodel_58 smodel_59 smodel_60 smodel_61 smodel_62 smodel_63 smodel_64 smodel_65 smodel_66 smodel_67 smodel_68 smodel_69 smodel_70 smodel_71 smodel_72 smodel_73 smodel_74 smodel_75 smodel_76 smodel_77 smodel_78 smodel_79 smodel_80 smodel_81 smodel_82 smodel_83 smodel_84 smodel_85 smodel_86 smodel_87 smodel_88 smodel_89 smodel_90 smodel_91 smodel_92 smodel_93 smodel_94 smodel_95 smodel_96 smodel_97 smodel_98 smodel_99 smodel_100 smodel_101 smodel_102 smodel_103 smodel_104 smodel_105 smodel_106 smodel_107 smodel_108 smodel_109 smodel_110 smodel_111 smodel_112 smodel_113 smodel_114 smodel_115 smodel_116 smodel_117 smodel_118 smodel_119 smodel_120 smodel_121 smodel_122 smodel_123 smodel_124 smodel_125 smodel_126 smodel_127 smodel_128 smodel_129 smodel_130 smodel_131 smodel_132 smodel_133 smodel_134 smodel_135 smodel_136 smodel_137 smodel_138 smodel_139 smodel_140 smodel_141 smodel_142 smodel_143 i F st v hi hmo hv hlt hbl smodel_144 smodel_145 ti e5 x1 nm hnm x3 HM smodel_146 smodel_147 smodel_148 k hk3 smodel_149 smodel_150 smodel_151 smodel_152 smodel_153 smodel_154 smodel_155 smodel_156 smodel_157 smodel_158 smodel_159 smodel_160 smodel_161 smodel_162 smodel_163 smodel_164 smodel_165 smodel_166 smodel_167 smodel_168 smodel_169 smodel_170 smodel_171 smodel_172 smodel_173 smodel_174 smodel_175 smodel_176 smodel_177 smodel_178 smodel_179 smodel_180 smodel_181 smodel_182 smodel_183 smodel_184 smodel_185 smodel_186 smodel_187 smodel_188 smodel_189 smodel_190 smodel_191 smodel_192 smodel_193 smodel_194 smodel_195 smodel_196 smodel_197 smodel_198 smodel_199 smodel_200 smodel_201 smodel_202 smodel_203 smodel_204 smodel_205 smodel_206 smodel_207 smodel_208 smodel_209 smodel_210 smodel_211 smodel_212 smodel_213 smodel_214 smodel_215 smodel_216 smodel_217 smodel_218 smodel_219 smodel_220 smodel_221 smodel_222 smodel_223 smodel_224 smodel_225 smodel_226 smodel_227 smodel_228 smodel_229 smodel_230 smodel_231 smodel_232 smodel_233 smodel_234 smodel_235 smodel_236 smodel_237 smodel_238 smodel_239 smodel_240 smodel_241 smodel_242 smodel_243 smodel_244 smodel_245 smodel_246 smodel_247 smodel_248 smodel_249 smodel_250 smodel_251 smodel_252 smodel_253 smodel_254 smodel_255 smodel_256 smodel_257 smodel_258 smodel_259 smodel_260 smodel_261 smodel_262 smodel_263 smodel_264 smodel_265 smodel_266 smodel_267 smodel_268 smodel_269 smodel_270 smodel_271 smodel_272 smodel_273 smodel_274 smodel_275 smodel_276 smodel_277 smodel_278 smodel_279 smodel_280 smodel_281 smodel_282 smodel_283 hvk ak ck hfew tk HAB w2 wq HBX z1 z2 z3 smodel_284 smodel_285 smodel_286 smodel_287 smodel_288 smodel_289 HX ka kn kc u74 u75 u76 u77 u78 u79 u80 u81 u82 u83 u84 u85 u86 u87 u88 u89 u90 u91 u92 u93 u94 u95 u96 u97 u98 u99 u100 u101 u102 u103 u104 u105 u106 u107 u108 u109 u110 u111 u112 u113 u114 u115 u116 u117 u118 u119 u120 u121 u122 u123 u124 u125 u126 u127 u128 u129 u130 u131 u132 u133 u134 u135 u136 u137 u138 u139 u140 u141 u142 u143 u144 u145 u146 u147 u148 u149 u150 u151 u152 u153 u154 u155 u156 u157 u158 u159 u160 u161 u162 u163 u164 u165 u166 u167 u168 u169 u170 u171 u172 u173 u174 u175 u176 u177 u178 u179 u180 u181 u182 u183 u184 u185 u186 u187 u188 u189 u190 u191 u192 u193 u194 u195 u196 u197 u198 u199 u200 u201 u202 u203 u204 u205 u206 u207 u208 wd l' er CS2 za zc f1 hlx f2 f3 hvb smodel_290 smodel_291
                        exact hp_set2.out

                    · clear hp_set1 hp_set2
                      by_cases h03 : x0 = 3
                      · subst h03
                        obtain ⟨ka, kn, kc, d1, d2, dS⟩ := HM.out.wantN (W := wq.drew) HBX.out.drew hk3 hfew
                        have CS := (dS (nm := nm)).2
                        have d3 : wq.drew.cell? ⟨wr.heap.size, 2, none⟩ = some (.string nm) := HX.out.c 2 (by omega)
                        clear dS
                        go_upto_region 33 with fail
                        go_cut [16] from 74 to 208 (fun ov wd => ∃ (l' : List (ByteArray × Int)) (er : Int), ov = .bool (decide (er = 0)) ∧ MdR (prsS F (st k)) nm l' er ∧ (∀ b j, wr.heap.size ≤ b → b < wq.heap.size → wd.cell? ⟨b, j, none⟩ = wq.cell? ⟨b, j, none⟩) ∧ M3n w r F st v v (up3 (fun j => prsS F (st j)) k l') i wr.heap.size wq.heap.size wd)
                        case first =>
                          rename_i smodel_1 smodel_2 smodel_3 smodel_4 smodel_5 smodel_6 smodel_7 smodel_8 smodel_9 smodel_10 smodel_11 smodel_12 smodel_13 smodel_14 smodel_15 smodel_16 smodel_17 smodel_18 smodel_19 smodel_20 smodel_21 smodel_22 smodel_23 smodel_24 smodel_25 smodel_26 smodel_27 smodel_28 smodel_29 smodel_30 smodel_31 smodel_32 smodel_33 smodel_34 smodel_35 smodel_36 smodel_37 smodel_38 smodel_39 smodel_40 smodel_41 smodel_42 smodel_43 smodel_44 smodel_45 smodel_46 smodel_47 smodel_48 smodel_49 smodel_50 smodel_51 smodel_52 smodel_53 smodel_54 smodel_55 smodel_56 smodel_57 smodel_58 smodel_59 smodel_60 smodel_61 smodel_62 smodel_63 smodel_64 smodel_65 smodel_66 smodel_67 smodel_68 smodel_69 smodel_70 smodel_71 smodel_72 smodel_73 smodel_74 smodel_75 smodel_76 smodel_77 smodel_78 smodel_79 smodel_80 smodel_81 smodel_82 smodel_83 smodel_84 smodel_85 smodel_86 smodel_87 smodel_88 smodel_89 smodel_90 smodel_91 smodel_92 smodel_93 smodel_94 smodel_95 smodel_96 smodel_97 smodel_98 smodel_99 smodel_100 smodel_101 smodel_102 smodel_103 smodel_104 smodel_105 smodel_106 smodel_107 smodel_108 smodel_109 smodel_110 smodel_111 smodel_112 smodel_113 smodel_114 smodel_115 smodel_116 smodel_117 smodel_118 smodel_119 smodel_120 smodel_121 smodel_122 smodel_123 smodel_124 smodel_125 smodel_126 smodel_127 smodel_128 smodel_129 smodel_130 smodel_131 smodel_132 smodel_133 smodel_134 smodel_135 smodel_136 smodel_137 smodel_138 smodel_139 smodel_140 smodel_141 smodel_142 smodel_143 smodel_144 smodel_145 smodel_146 smodel_147 smodel_148 smodel_149 smodel_150 smodel_151 smodel_152 smodel_153 smodel_154 smodel_155 smodel_156 smodel_157 smodel_158 smodel_159 smodel_160
                          revert n c G w hcap b off HG i1 i2 i3 M0 p1 M1 p3 vS q0 q1 q2 q3 w0 hn HSZ vW w1 XF vV iv smodel_1 smodel_2 u54 u55 u56 u57 u58 u59 u60 u61 u62 u63 u64 u65 u66 u67 u68 u69 u70 u71 u72 u73 smodel_3 smodel_4 r smodel_5 smodel_6 smodel_7 smodel_8 wr u6 u14 u15 u16 u17 u18 smodel_9 smodel_10 smodel_11 smodel_12 smodel_13 smodel_14 smodel_15 smodel_16 smodel_17 smodel_18 smodel_19 smodel_20 smodel_21 smodel_22 smodel_23 smodel_24 smodel_25 smodel_26 smodel_27 smodel_28 smodel_29 smodel_30 smodel_31 smodel_32 smodel_33 smodel_34 smodel_35 smodel_36 smodel_37 smodel_38 smodel_39 smodel_40 smodel_41 smodel_42 smodel_43 smodel_44 smodel_45 smodel_46 smodel_47 smodel_48 smodel_49 smodel_50 smodel_51 smodel_52 smodel_53 smodel_54 smodel_55 smodel_56 smodel_57 smodel_58 smodel_59 smodel_60 smodel_61 smodel_62 smodel_63 smodel_64 smodel_65 smodel_66 smodel_67 smodel_68 smodel_69 smodel_70 smodel_71 smodel_72 smodel_73 smodel_74 smodel_75 smodel_76 smodel_77 smodel_78 smodel_79 smodel_80 smodel_81 smodel_82 smodel_83 smodel_84 smodel_85 smodel_86 smodel_87 smodel_88 smodel_89 smodel_90 smodel_91 smodel_92 smodel_93 smodel_94 smodel_95 smodel_96 smodel_97 smodel_98 smodel_99 smodel_100 smodel_101 smodel_102 smodel_103 smodel_104 smodel_105 smodel_106 smodel_107 smodel_108 smodel_109 smodel_110 smodel_111 smodel_112 smodel_113 smodel_114 smodel_115 smodel_116 smodel_117 smodel_118 smodel_119 smodel_120 smodel_121 smodel_122 smodel_123 smodel_124 smodel_125 smodel_126 smodel_127 smodel_128 smodel_129 smodel_130 smodel_131 smodel_132 smodel_133 smodel_134 smodel_135 smodel_136 smodel_137 smodel_138 smodel_139 smodel_140 smodel_141 smodel_142 smodel_143 i F st v hi hmo hv hlt hbl smodel_144 smodel_145 ti e5 x1 nm hnm x3 HM smodel_146 smodel_147 smodel_148 k hk3 u74 u75 u76 u77 u78 u79 u80 u81 u82 u83 u84 u85 u86 u87 u88 u89 u90 u91 u92 u93 u94 u95 u96 u97 u98 u99 u100 u101 u102 u103 u104 u105 u106 u107 u108 u109 u110 u111 u112 u113 u114 u115 u116 u117 u118 u119 u120 u121 u122 u123 u124 u125 u126 u127 u128 u129 u130 u131 u132 u133 u134 u135 u136 u137 u138 u139 u140 u141 u142 u143 u144 u145 u146 u147 u148 u149 u150 u151 u152 u153 u154 u155 u156 u157 u158 u159 u160 u161 u162 u163 u164 u165 u166 u167 u168 u169 u170 u171 u172 u173 u174 u175 u176 u177 u178 u179 u180 u181 u182 u183 u184 u185 u186 u187 u188 u189 u190 u191 u192 u193 u194 u195 u196 u197 u198 u199 u200 u201 u202 u203 u204 u205 u206 u207 u208 hvk ak ck hfew tk HAB w2 wq HBX z1 z2 z3 smodel_149 smodel_150 smodel_151 smodel_152 smodel_153 smodel_154 HX u0 h01 ka kn kc d1 d2 CS d3 smodel_155 smodel_156 smodel_157 smodel_158 smodel_159 smodel_160
                          exact hp_del1.out

                        case rest =>
                          clear hp_del1
                          obtain ⟨wd, hwd⟩ : ∃ y, y = wc := ⟨_, rfl⟩
                          subst hwd
                          obtain ⟨l', er, rfl, hms, hcl, hM3⟩ := hcut
                          have CS2 := (hM3.keep ((Below.refl _ wd).drew)).del hk3 hms (by omega) (by omega) (by omega)
                          obtain ⟨za, zc, f1, -, -, -, -, -, -, -⟩ := hM3.m3.look hk3 (by omega)
                          have hlx : wr.heap.size < wq.heap.size := lt_of_cell u0
                          have f2 : wd.cell? ⟨wr.heap.size, 2, none⟩ = some (.string nm) := (hcl _ 2 (Nat.le_refl _) hlx).trans (HX.out.c 2 (by omega))
                          have hvb : ∀ e : Int, up3 v k (if e = 0 then v k + 1 else v k) k ≤ 1000 := fun e => by rw [up3_at]; split <;> omega
                          clear hms hcl hM3 d1 d2 d3 CS u0
                          go_upto_region 34 with fail
                          rename_i smodel_1 smodel_2 smodel_3 smodel_4 smodel_5 smodel_6 smodel_7 smodel_8 smodel_9 smodel_10 smodel_11 smodel_12 smodel_13 smodel_14 smodel_15 smodel_16 smodel_17 smodel_18 smodel_19 smodel_20 smodel_21 smodel_22 smodel_23 smodel_24 smodel_25 smodel_26 smodel_27 smodel_28 smodel_29 smodel_30 smodel_31 smodel_32 smodel_33 smodel_34 smodel_35 smodel_36 smodel_37 smodel_38 smodel_39 smodel_40 smodel_41 smodel_42 smodel_43 smodel_44 smodel_45 smodel_46 smodel_47 smodel_48 smodel_49 smodel_50 smodel_51 smodel_52 smodel_53 smodel_54 smodel_55 smodel_56 smodel_57 smodel_58 smodel_59 smodel_60 smodel_61 smodel_62 smodel_63 smodel_64 smodel_65 smodel_66 smodel_67 smodel_68 smodel_69 smodel_70 smodel_71 smodel_72 smodel_73 smodel_74 smodel_75 smodel_76 smodel_77 smodel_78 smodel_79 smodel_80 smodel_81 smodel_82 smodel_83 smodel_84 smodel_85 smodel_86 smodel_87 smodel_88 smodel_89 smodel_90 smodel_91 smodel_92 smodel_93 smodel_94 smodel_95 smodel_96 smodel_97 smodel_98 smodel_99 smodel_100 smodel_101 smodel_102 smodel_103 smodel_104 smodel_105 smodel_106 smodel_107 smodel_108 smodel_109 smodel_110 smodel_111 smodel_112 smodel_113 smodel_114 smodel_115 smodel_116 smodel_117 smodel_118 smodel_119 smodel_120 smodel_121 smodel_122 smodel_123 smodel_124 smodel_125 smodel_126 smodel_127 smodel_128 smodel_129 smodel_130 smodel_131 smodel_132 smodel_133 smodel_134 smodel_135 smodel_136 smodel_137 smodel_138 smodel_139 smodel_140 smodel_141 smodel_142 smodel_143 smodel_144 smodel_145 smodel_146 smodel_147 smodel_148 smodel_149 smodel_150 smodel_151 smodel_152 smodel_153 smodel_154 smodel_155 smodel_156 smodel_157 smodel_158 smodel_159 smodel_160 smodel_161 smodel_162 smodel_163 smodel_164 smodel_165 smodel_166 smodel_167 smodel_168 smodel_169 smodel_170 smodel_171 smodel_172 smodel_173 smodel_174 smodel_175 smodel_176 smodel_177 smodel_178 smodel_179 smodel_180 smodel_181 smodel_182 smodel_183 smodel_184 smodel_185 smodel_186 smodel_187 smodel_188 smodel_189 smodel_190 smodel_191 smodel_192 smodel_193 smodel_194 smodel_195 smodel_196 smodel_197 smodel_198 smodel_199 smodel_200 smodel_201 smodel_202 smodel_203 smodel_204 smodel_205 smodel_206 smodel_207 smodel_208 smodel_209 smodel_210 smodel_211 smodel_212 smodel_213 smodel_214 smodel_215 smodel_216 smodel_217 smodel_218 smodel_219 smodel_220 smodel_221 smodel_222 smodel_223 smodel_224 smodel_225 smodel_226 smodel_227 smodel_228 smodel_229 smodel_230 smodel_231 smodel_232 smodel_233 smodel_234 smodel_235 smodel_236 smodel_237 smodel_238 smodel_239 smodel_240 smodel_241 smodel_242 smodel_243 smodel_244 smodel_245 smodel_246 smodel_247 smodel_248 smodel_249 smodel_250 smodel_251 smodel_252 smodel_253 smodel_254 smodel_255 smodel_256 smodel_257 smodel_258 smodel_259 smodel_260 smodel_261 smodel_262 smodel_263 smodel_264 smodel_265 smodel_266 smodel_267 smodel_268 smodel_269 smodel_270 smodel_271 smodel_272 smodel_273 smodel_274 smodel_275 smodel_276 smodel_277 smodel_278 smodel_279 smodel_280 smodel_281 smodel_282 smodel_283 smodel_284 smodel_285 smodel_286 smodel_287 smodel_288 smodel_289 smodel_290 smodel_291
                          revert n c G w hcap b off HG i1 i2 i3 M0 p1 M1 p3 vS q0 q1 q2 q3 w0 hn HSZ vW w1 XF vV iv smodel_1 smodel_2 u54 u55 u56 u57 u58 u59 u60 u61 u62 u63 u64 u65 u66 u67 u68 u69 u70 u71 u72 u73 smodel_3 smodel_4 r smodel_5 smodel_6 smodel_7 smodel_8 wr u6 u14 u15 u16 u17 u18 smodel_9 smodel_10 smodel_11 smodel_12 smodel_13 smodel_14 smodel_15 smodel_16 smodel_17 smodel_18 smodel_19 smodel_20 smodel_21 smodel_22 smodel_23 smodel_24 smodel_25 smodel_26 smodel_27 smodel_28 smodel_29 smodel_30 smodel_31 smodel_32 smodel_33 smodel_34 smodel_35 smodel_36 smodel_37 smodel_38 smodel_39 smodel_40 smodel_41 smodel_42 smodel_43 smodel_44 smodel_45 smodel_46 smodel_47 smodel_48 smodel_49 smodel_50 smodel_51 smodel_52 smodel_53 smodel_54 smodel_55 smodel_56 smodel_57 smodel_58 smodel_59 smodel_60 smodel_61 smodel_62 smodel_63 smodel_64 smodel_65 smodel_66 smodel_67 smodel_68 smodel_69 smodel_70 smodel_71 smodel_72 smodel_73 smodel_74 smodel_75 smodel_76 smodel_77 smodel_78 smodel_79 smodel_80 smodel_81 smodel_82 smodel_83 smodel_84 smodel_85 smodel_86 smodel_87 smodel_88 smodel_89 smodel_90 smodel_91 smodel_92 smodel_93 smodel_94 smodel_95 smodel_96 smodel_97 smodel_98 smodel_99 smodel_100 smodel_101 smodel_102 smodel_103 smodel_104 smodel_105 smodel_106 smodel_107 smodel_108 smodel_109 smodel_110 smodel_111 smodel_112 smodel_113 smodel_114 smodel_115 smodel_116 smodel_117 smodel_118 smodel_119 smodel_120 smodel_121 smodel_122 smodel_123 smodel_124 smodel_125 smodel_126 smodel_127 smodel_128 smodel_129 smodel_130 smodel_131 smodel_132 smodel_133 smodel_134 smodel_135 smodel_136 smodel_137 smodel_138 smodel_139 smodel_140 smodel_141 smodel_142 smodel_143 i F st v hi hmo hv hlt hbl smodel_144 smodel_145 ti e5 x1 nm hnm x3 HM smodel_146 smodel_147 smodel_148 k hk3 smodel_149 smodel_150 smodel_151 smodel_152 smodel_153 smodel_154 smodel_155 smodel_156 smodel_157 smodel_158 smodel_159 smodel_160 smodel_161 smodel_162 smodel_163 smodel_164 smodel_165 smodel_166 smodel_167 smodel_168 smodel_169 smodel_170 smodel_171 smodel_172 smodel_173 smodel_174 smodel_175 smodel_176 smodel_177 smodel_178 smodel_179 smodel_180 smodel_181 smodel_182 smodel_183 smodel_184 smodel_185 smodel_186 smodel_187 smodel_188 smodel_189 smodel_190 smodel_191 smodel_192 smodel_193 smodel_194 smodel_195 smodel_196 smodel_197 smodel_198 smodel_199 smodel_200 smodel_201 smodel_202 smodel_203 smodel_204 smodel_205 smodel_206 smodel_207 smodel_208 smodel_209 smodel_210 smodel_211 smodel_212 smodel_213 smodel_214 smodel_215 smodel_216 smodel_217 smodel_218 smodel_219 smodel_220 smodel_221 smodel_222 smodel_223 smodel_224 smodel_225 smodel_226 smodel_227 smodel_228 smodel_229 smodel_230 smodel_231 smodel_232 smodel_233 smodel_234 smodel_235 smodel_236 smodel_237 smodel_238 smodel_239 smodel_240 smodel_241 smodel_242 smodel_243 smodel_244 smodel_245 smodel_246 smodel_247 smodel_248 smodel_249 smodel_250 smodel_251 smodel_252 smodel_253 smodel_254 smodel_255 smodel_256 smodel_257 smodel_258 smodel_259 smodel_260 smodel_261 smodel_262 smodel_263 smodel_264 smodel_265 smodel_266 smodel_267 smodel_268 smodel_269 smodel_270 smodel_271 smodel_272 smodel_273 smodel_274 smodel_275 smodel_276 smodel_277 smodel_278 smodel_279 smodel_280 smodel_281 smodel_282 smodel_283 hvk ak ck hfew tk HAB w2 wq HBX z1 z2 z3 smodel_284 smodel_285 smodel_286 smodel_287 smodel_288 smodel_289 HX h01 ka kn kc u74 u75 u76 u77 u78 u79 u80 u81 u82 u83 u84 u85 u86 u87 u88 u89 u90 u91 u92 u93 u94 u95 u96 u97 u98 u99 u100 u101 u102 u103 u104 u105 u106 u107 u108 u109 u110 u111 u112 u113 u114 u115 u116 u117 u118 u119 u120 u121 u122 u123 u124 u125 u126 u127 u128 u129 u130 u131 u132 u133 u134 u135 u136 u137 u138 u139 u140 u141 u142 u143 u144 u145 u146 u147 u148 u149 u150 u151 u152 u153 u154 u155 u156 u157 u158 u159 u160 u161 u162 u163 u164 u165 u166 u167 u168 u169 u170 u171 u172 u173 u174 u175 u176 u177 u178 u179 u180 u181 u182 u183 u184 u185 u186 u187 u188 u189 u190 u191 u192 u193 u194 u195 u196 u197 u198 u199 u200 u201 u202 u203 u204 u205 u206 u207 u208 wd l' er CS2 za zc f1 hlx f2 hvb smodel_290 smodel_291
                          exact hp_del2.out

                      · clear hp_del1 hp_del2
                        have hMd : M3 w r F st (up3 v k (if (1 : Int) = 0 then v k + 1 else v k)) v (fun j => prsS F (st j)) (i + 1) wq := by
                          rw [if_neg (by decide), up3_self]
                          exact (HM.out.keep HBX.out).more
                        have HMD := Lib.hid hMd
                        clear hMd
                        rename_i smodel_1 smodel_2 smodel_3 smodel_4 smodel_5 smodel_6 smodel_7 smodel_8 smodel_9 smodel_10 smodel_11 smodel_12 smodel_13 smodel_14 smodel_15 smodel_16 smodel_17 smodel_18 smodel_19 smodel_20 smodel_21 smodel_22 smodel_23 smodel_24 smodel_25 smodel_26 smodel_27 smodel_28 smodel_29 smodel_30 smodel_31 smodel_32 smodel_33 smodel_34 smodel_35 smodel_36 smodel_37 smodel_38 smodel_39 smodel_40 smodel_41 smodel_42 smodel_43 smodel_44 smodel_45 smodel_46 smodel_47 smodel_48 smodel_49 smodel_50 smodel_51 smodel_52 smodel_53 smodel_54 smodel_55 smodel_56 smodel_57 smodel_58 smodel_59 smodel_60 smodel_61 smodel_62 smodel_63 smodel_64 smodel_65 smodel_66 smodel_67 smodel_68 smodel_69 smodel_70 smodel_71 smodel_72 smodel_73 smodel_74 smodel_75 smodel_76 smodel_77 smodel_78 smodel_79 smodel_80 smodel_81 smodel_82 smodel_83 smodel_84 smodel_85 smodel_86 smodel_87 smodel_88 smodel_89 smodel_90 smodel_91 smodel_92 smodel_93 smodel_94 smodel_95 smodel_96 smodel_97 smodel_98 smodel_99 smodel_100 smodel_101 smodel_102 smodel_103 smodel_104 smodel_105 smodel_106 smodel_107 smodel_108 smodel_109 smodel_110 smodel_111 smodel_112 smodel_113 smodel_114 smodel_115 smodel_116 smodel_117 smodel_118 smodel_119 smodel_120 smodel_121 smodel_122 smodel_123 smodel_124 smodel_125 smodel_126 smodel_127 smodel_128 smodel_129 smodel_130 smodel_131 smodel_132 smodel_133 smodel_134 smodel_135 smodel_136 smodel_137 smodel_138 smodel_139 smodel_140 smodel_141 smodel_142 smodel_143 smodel_144 smodel_145 smodel_146 smodel_147 smodel_148 smodel_149 smodel_150 smodel_151 smodel_152 smodel_153 smodel_154
                        revert n c G w hcap b off HG i1 i2 i3 M0 p1 M1 p3 vS q0 q1 q2 q3 w0 hn HSZ vW w1 XF vV iv smodel_1 smodel_2 u54 u55 u56 u57 u58 u59 u60 u61 u62 u63 u64 u65 u66 u67 u68 u69 u70 u71 u72 u73 smodel_3 smodel_4 r smodel_5 smodel_6 smodel_7 smodel_8 wr u6 u14 u15 u16 u17 u18 smodel_9 smodel_10 smodel_11 smodel_12 smodel_13 smodel_14 smodel_15 smodel_16 smodel_17 smodel_18 smodel_19 smodel_20 smodel_21 smodel_22 smodel_23 smodel_24 smodel_25 smodel_26 smodel_27 smodel_28 smodel_29 smodel_30 smodel_31 smodel_32 smodel_33 smodel_34 smodel_35 smodel_36 smodel_37 smodel_38 smodel_39 smodel_40 smodel_41 smodel_42 smodel_43 smodel_44 smodel_45 smodel_46 smodel_47 smodel_48 smodel_49 smodel_50 smodel_51 smodel_52 smodel_53 smodel_54 smodel_55 smodel_56 smodel_57 smodel_58 smodel_59 smodel_60 smodel_61 smodel_62 smodel_63 smodel_64 smodel_65 smodel_66 smodel_67 smodel_68 smodel_69 smodel_70 smodel_71 smodel_72 smodel_73 smodel_74 smodel_75 smodel_76 smodel_77 smodel_78 smodel_79 smodel_80 smodel_81 smodel_82 smodel_83 smodel_84 smodel_85 smodel_86 smodel_87 smodel_88 smodel_89 smodel_90 smodel_91 smodel_92 smodel_93 smodel_94 smodel_95 smodel_96 smodel_97 smodel_98 smodel_99 smodel_100 smodel_101 smodel_102 smodel_103 smodel_104 smodel_105 smodel_106 smodel_107 smodel_108 smodel_109 smodel_110 smodel_111 smodel_112 smodel_113 smodel_114 smodel_115 smodel_116 smodel_117 smodel_118 smodel_119 smodel_120 smodel_121 smodel_122 smodel_123 smodel_124 smodel_125 smodel_126 smodel_127 smodel_128 smodel_129 smodel_130 smodel_131 smodel_132 smodel_133 smodel_134 smodel_135 smodel_136 smodel_137 smodel_138 smodel_139 smodel_140 smodel_141 smodel_142 smodel_143 i F st v hi hmo hv hlt hbl smodel_144 smodel_145 ti e5 x0 x1 nm hnm x3 HM smodel_146 smodel_147 smodel_148 k hk3 u74 u75 u76 u77 u78 u79 u80 u81 u82 u83 u84 u85 u86 u87 u88 u89 u90 u91 u92 u93 u94 u95 u96 u97 u98 u99 u100 u101 u102 u103 u104 u105 u106 u107 u108 u109 u110 u111 u112 u113 u114 u115 u116 u117 u118 u119 u120 u121 u122 u123 u124 u125 u126 u127 u128 u129 u130 u131 u132 u133 u134 u135 u136 u137 u138 u139 u140 u141 u142 u143 u144 u145 u146 u147 u148 u149 u150 u151 u152 u153 u154 u155 u156 u157 u158 u159 u160 u161 u162 u163 u164 u165 u166 u167 u168 u169 u170 u171 u172 u173 u174 u175 u176 u177 u178 u179 u180 u181 u182 u183 u184 u185 u186 u187 u188 u189 u190 u191 u192 u193 u194 u195 u196 u197 u198 u199 u200 u201 u202 u203 u204 u205 u206 u207 u208 hvk ak ck hfew tk HAB w2 wq HX HBX z1 z2 z3 u0 smodel_149 smodel_150 smodel_151 smodel_152 smodel_153 smodel_154 h01 h03 HMD
                        exact hp_def.out

                  case rest =>
                    clear hp_set1 hp_set2 hp_del1 hp_del2 hp_def
                    obtain ⟨we, hwe⟩ : ∃ y, y = wc := ⟨_, rfl⟩
                    subst hwe
                    obtain ⟨F', st', er, rfl, hmo', hrw, hM5⟩ := hcut
                    clear HX HBX HM u0 hfew z1 z2 z3
                    obtain ⟨v2, hv2⟩ : ∃ v2, up3 v k (if er = 0 then v k + 1 else v k) = v2 := ⟨_, rfl⟩
                    rw [hv2] at hM5
                    have hv2' : ∀ j, v2 j ≤ i + 1 := fun j => by
                      rw [← hv2]
                      by_cases e : j = k
                      · subst e; rw [up3_at]; have := hv j; split <;> omega
                      · rw [up3_ne e]; have := hv j; omega
                    go_upto_if 153 with fail
                    go_cut [] from 74 to 208 (fun wd => M3 w r F' st' v2 v2 (fun j => prsS F' (st' j)) (i + 1) wd)
                    case first =>
                      rename_i smodel_1 smodel_2 smodel_3 smodel_4 smodel_5 smodel_6 smodel_7 smodel_8 smodel_9 smodel_10 smodel_11 smodel_12 smodel_13 smodel_14 smodel_15 smodel_16 smodel_17 smodel_18 smodel_19 smodel_20 smodel_21 smodel_22 smodel_23 smodel_24 smodel_25 smodel_26 smodel_27 smodel_28 smodel_29 smodel_30 smodel_31 smodel_32 smodel_33 smodel_34 smodel_35 smodel_36 smodel_37 smodel_38 smodel_39 smodel_40 smodel_41 smodel_42 smodel_43 smodel_44 smodel_45 smodel_46 smodel_47 smodel_48 smodel_49 smodel_50 smodel_51 smodel_52 smodel_53 smodel_54 smodel_55 smodel_56 smodel_57 smodel_58 smodel_59 smodel_60 smodel_61 smodel_62 smodel_63 smodel_64 smodel_65 smodel_66 smodel_67 smodel_68 smodel_69 smodel_70 smodel_71 smodel_72 smodel_73 smodel_74 smodel_75 smodel_76 smodel_77 smodel_78 smodel_79 smodel_80 smodel_81 smodel_82 smodel_83 smodel_84 smodel_85 smodel_86 smodel_87 smodel_88 smodel_89 smodel_90 smodel_91 smodel_92 smodel_93 smodel_94 smodel_95 smodel_96 smodel_97 smodel_98 smodel_99 smodel_100 smodel_101 smodel_102 smodel_103 smodel_104 smodel_105 smodel_106 smodel_107 smodel_108 smodel_109 smodel_110 smodel_111 smodel_112 smodel_113 smodel_114 smodel_115 smodel_116 smodel_117 smodel_118 smodel_119 smodel_120 smodel_121 smodel_122 smodel_123 smodel_124 smodel_125 smodel_126 smodel_127 smodel_128 smodel_129 smodel_130 smodel_131 smodel_132 smodel_133 smodel_134 smodel_135 smodel_136 smodel_137 smodel_138 smodel_139 smodel_140 smodel_141 smodel_142 smodel_143 smodel_144 smodel_145 smodel_146 smodel_147 smodel_148 smodel_149 smodel_150 smodel_151 smodel_152 smodel_153 smodel_154 smodel_155 smodel_156 smodel_157 smodel_158 smodel_159 smodel_160 smodel_161 smodel_162 smodel_163 smodel_164 smodel_165 smodel_166 smodel_167 smodel_168 smodel_169 smodel_170 smodel_171 smodel_172 smodel_173 smodel_174 smodel_175 smodel_176 smodel_177 smodel_178 smodel_179 smodel_180 smodel_181 smodel_182 smodel_183 smodel_184 smodel_185 smodel_186 smodel_187 smodel_188 smodel_189 smodel_190 smodel_191 smodel_192 smodel_193 smodel_194 smodel_195 smodel_196 smodel_197 smodel_198 smodel_199 smodel_200 smodel_201 smodel_202 smodel_203 smodel_204 smodel_205 smodel_206 smodel_207 smodel_208 smodel_209 smodel_210 smodel_211 smodel_212 smodel_213 smodel_214 smodel_215 smodel_216 smodel_217 smodel_218 smodel_219 smodel_220 smodel_221 smodel_222 smodel_223 smodel_224 smodel_225 smodel_226 smodel_227 smodel_228 smodel_229 smodel_230 smodel_231 smodel_232 smodel_233 smodel_234 smodel_235 smodel_236 smodel_237 smodel_238 smodel_239 smodel_240 smodel_241 smodel_242 smodel_243 smodel_244 smodel_245 smodel_246 smodel_247 smodel_248 smodel_249 smodel_250 smodel_251 smodel_252 smodel_253 smodel_254 smodel_255 smodel_256 smodel_257 smodel_258 smodel_259 smodel_260 smodel_261 smodel_262 smodel_263 smodel_264 smodel_265 smodel_266 smodel_267 smodel_268 smodel_269 smodel_270 smodel_271 smodel_272 smodel_273 smodel_274 smodel_275 smodel_276 smodel_277 smodel_278 smodel_279 smodel_280 smodel_281 smodel_282 smodel_283 smodel_284 smodel_285 smodel_286 smodel_287 smodel_288 smodel_289 smodel_290
                      revert n c G w hcap b off HG i1 i2 i3 M0 p1 M1 p3 vS q0 q1 q2 q3 w0 hn HSZ vW w1 XF vV iv smodel_1 smodel_2 u54 u55 u56 u57 u58 u59 u60 u61 u62 u63 u64 u65 u66 u67 u68 u69 u70 u71 u72 u73 smodel_3 smodel_4 r smodel_5 smodel_6 smodel_7 smodel_8 wr smodel_9 u14 u15 u16 u17 u18 smodel_10 smodel_11 smodel_12 smodel_13 smodel_14 smodel_15 smodel_16 smodel_17 smodel_18 smodel_19 smodel_20 smodel_21 smodel_22 smodel_23 smodel_24 smodel_25 smodel_26 smodel_27 smodel_28 smodel_29 smodel_30 smodel_31 smodel_32 smodel_33 smodel_34 smodel_35 smodel_36 smodel_37 smodel_38 smodel_39 smodel_40 smodel_41 smodel_42 smodel_43 smodel_44 smodel_45 smodel_46 smodel_47 smodel_48 smodel_49 smodel_50 smodel_51 smodel_52 smodel_53 smodel_54 smodel_55 smodel_56 smodel_57 smodel_58 smodel_59 smodel_60 smodel_61 smodel_62 smodel_63 smodel_64 smodel_65 smodel_66 smodel_67 smodel_68 smodel_69 smodel_70 smodel_71 smodel_72 smodel_73 smodel_74 smodel_75 smodel_76 smodel_77 smodel_78 smodel_79 smodel_80 smodel_81 smodel_82 smodel_83 smodel_84 smodel_85 smodel_86 smodel_87 smodel_88 smodel_89 smodel_90 smodel_91 smodel_92 smodel_93 smodel_94 smodel_95 smodel_96 smodel_97 smodel_98 smodel_99 smodel_100 smodel_101 smodel_102 smodel_103 smodel_104 smodel_105 smodel_106 smodel_107 smodel_108 smodel_109 smodel_110 smodel_111 smodel_112 smodel_113 smodel_114 smodel_115 smodel_116 smodel_117 smodel_118 smodel_119 smodel_120 smodel_121 smodel_122 smodel_123 smodel_124 smodel_125 smodel_126 smodel_127 smodel_128 smodel_129 smodel_130 smodel_131 smodel_132 smodel_133 smodel_134 smodel_135 smodel_136 smodel_137 smodel_138 smodel_139 smodel_140 smodel_141 smodel_142 smodel_143 smodel_144 i F st v hi hmo hv hlt hbl smodel_145 smodel_146 ti e5 x0 x1 nm hnm x3 smodel_147 smodel_148 smodel_149 k hk3 smodel_150 smodel_151 smodel_152 smodel_153 smodel_154 smodel_155 smodel_156 smodel_157 smodel_158 smodel_159 smodel_160 smodel_161 smodel_162 smodel_163 smodel_164 smodel_165 smodel_166 smodel_167 smodel_168 smodel_169 smodel_170 smodel_171 smodel_172 smodel_173 smodel_174 smodel_175 smodel_176 smodel_177 smodel_178 smodel_179 smodel_180 smodel_181 smodel_182 smodel_183 smodel_184 smodel_185 smodel_186 smodel_187 smodel_188 smodel_189 smodel_190 smodel_191 smodel_192 smodel_193 smodel_194 smodel_195 smodel_196 smodel_197 smodel_198 smodel_199 smodel_200 smodel_201 smodel_202 smodel_203 smodel_204 smodel_205 smodel_206 smodel_207 smodel_208 smodel_209 smodel_210 smodel_211 smodel_212 smodel_213 smodel_214 smodel_215 smodel_216 smodel_217 smodel_218 smodel_219 smodel_220 smodel_221 smodel_222 smodel_223 smodel_224 smodel_225 smodel_226 smodel_227 smodel_228 smodel_229 smodel_230 smodel_231 smodel_232 smodel_233 smodel_234 smodel_235 smodel_236 smodel_237 smodel_238 smodel_239 smodel_240 smodel_241 smodel_242 smodel_243 smodel_244 smodel_245 smodel_246 smodel_247 smodel_248 smodel_249 smodel_250 smodel_251 smodel_252 smodel_253 smodel_254 smodel_255 smodel_256 smodel_257 smodel_258 smodel_259 smodel_260 smodel_261 smodel_262 smodel_263 smodel_264 smodel_265 smodel_266 smodel_267 smodel_268 smodel_269 smodel_270 smodel_271 smodel_272 smodel_273 smodel_274 smodel_275 smodel_276 smodel_277 smodel_278 smodel_279 smodel_280 smodel_281 smodel_282 smodel_283 smodel_284 hvk ak ck tk HAB w2 wq u6 u74 u75 u76 u77 u78 u79 u80 u81 u82 u83 u84 u85 u86 u87 u88 u89 u90 u91 u92 u93 u94 u95 u96 u97 u98 u99 u100 u101 u102 u103 u104 u105 u106 u107 u108 u109 u110 u111 u112 u113 u114 u115 u116 u117 u118 u119 u120 u121 u122 u123 u124 u125 u126 u127 u128 u129 u130 u131 u132 u133 u134 u135 u136 u137 u138 u139 u140 u141 u142 u143 u144 u145 u146 u147 u148 u149 u150 u151 u152 u153 u154 u155 u156 u157 u158 u159 u160 u161 u162 u163 u164 u165 u166 u167 u168 u169 u170 u171 u172 u173 u174 u175 u176 u177 u178 u179 u180 u181 u182 u183 u184 u185 u186 u187 u188 u189 u190 u191 u192 u193 u194 u195 u196 u197 u198 u199 u200 u201 u202 u203 u204 u205 u206 u207 u208 we F' st' er hmo' hrw v2 hM5 hv2 hv2' smodel_285 smodel_286 smodel_287 smodel_288 smodel_289 smodel_290
                      exact hp_vers.out

                    case rest =>
                      clear hp_vers
                      obtain ⟨wf, hwf⟩ : ∃ y, y = wc := ⟨_, rfl⟩
                      subst hwf
                      have hM6 : M3 w r F' st' v2 v2 (fun j => prsS F' (st' j)) (i + 1) wf := hcut
                      clear hM5 hcut
                      obtain ⟨za, zc, f1, -, -, -, CSh2, -, -, -⟩ := hM6.look hk3 (by have := hv2' k; omega)
                      go_upto_region 38 with fail
                      go_cut [17, 168] from 74 to 208 (fun _ cv wd => cv = .bool false ∧ wd = wf)
                      case first =>
                        have HM6 := Lib.hid hM6
                        clear hM6
                        go_wp2_with fail
                        refine CSh2.mono ?_
                        rintro e w3 ⟨rfl, hw3⟩
                        rw [hw3]
                        clear CSh2 hw3
                        cases hr2 : isRow (st' k) with
                        | true =>
                          have hr1 := hrw hr2
                          rw [hr1]
                          go_wp2_with fail
                          go_meet
                          case rel => exact ⟨rfl, rfl⟩
                        | false =>
                          go_wp2_with fail
                          go_meet
                          case rel => exact ⟨rfl, rfl⟩
                      case rest =>
                        obtain ⟨hcv, hwg⟩ := hcut
                        subst hcv
                        subst hwg
                        clear CSh2 f1
                        rename_i smodel_1 smodel_2 smodel_3 smodel_4 smodel_5 smodel_6 smodel_7 smodel_8 smodel_9 smodel_10 smodel_11 smodel_12 smodel_13 smodel_14 smodel_15 smodel_16 smodel_17 smodel_18 smodel_19 smodel_20 smodel_21 smodel_22 smodel_23 smodel_24 smodel_25 smodel_26 smodel_27 smodel_28 smodel_29 smodel_30 smodel_31 smodel_32 smodel_33 smodel_34 smodel_35 smodel_36 smodel_37 smodel_38 smodel_39 smodel_40 smodel_41 smodel_42 smodel_43 smodel_44 smodel_45 smodel_46 smodel_47 smodel_48 smodel_49 smodel_50 smodel_51 smodel_52 smodel_53 smodel_54 smodel_55 smodel_56 smodel_57 smodel_58 smodel_59 smodel_60 smodel_61 smodel_62 smodel_63 smodel_64 smodel_65 smodel_66 smodel_67 smodel_68 smodel_69 smodel_70 smodel_71 smodel_72 smodel_73 smodel_74 smodel_75 smodel_76 smodel_77 smodel_78 smodel_79 smodel_80 smodel_81 smodel_82 smodel_83 smodel_84 smodel_85 smodel_86 smodel_87 smodel_88 smodel_89 smodel_90 smodel_91 smodel_92 smodel_93 smodel_94 smodel_95 smodel_96 smodel_97 smodel_98 smodel_99 smodel_100 smodel_101 smodel_102 smodel_103 smodel_104 smodel_105 smodel_106 smodel_107 smodel_108 smodel_109 smodel_110 smodel_111 smodel_112 smodel_113 smodel_114 smodel_115 smodel_116 smodel_117 smodel_118 smodel_119 smodel_120 smodel_121 smodel_122 smodel_123 smodel_124 smodel_125 smodel_126 smodel_127 smodel_128 smodel_129 smodel_130 smodel_131 smodel_132 smodel_133 smodel_134 smodel_135 smodel_136 smodel_137 smodel_138 smodel_139 smodel_140 smodel_141 smodel_142 smodel_143 smodel_144 smodel_145 smodel_146 smodel_147 smodel_148 smodel_149 smodel_150 smodel_151 smodel_152 smodel_153 smodel_154 smodel_155 smodel_156 smodel_157 smodel_158 smodel_159 smodel_160 smodel_161 smodel_162 smodel_163 smodel_164 smodel_165 smodel_166 smodel_167 smodel_168 smodel_169 smodel_170 smodel_171 smodel_172 smodel_173 smodel_174 smodel_175 smodel_176 smodel_177 smodel_178 smodel_179 smodel_180 smodel_181 smodel_182 smodel_183 smodel_184 smodel_185 smodel_186 smodel_187 smodel_188 smodel_189 smodel_190 smodel_191 smodel_192 smodel_193 smodel_194 smodel_195 smodel_196 smodel_197 smodel_198 smodel_199 smodel_200 smodel_201 smodel_202 smodel_203 smodel_204 smodel_205 smodel_206 smodel_207 smodel_208 smodel_209 smodel_210 smodel_211 smodel_212 smodel_213 smodel_214 smodel_215 smodel_216 smodel_217 smodel_218 smodel_219 smodel_220 smodel_221 smodel_222 smodel_223 smodel_224 smodel_225 smodel_226 smodel_227 smodel_228 smodel_229 smodel_230 smodel_231 smodel_232 smodel_233 smodel_234 smodel_235 smodel_236 smodel_237 smodel_238 smodel_239 smodel_240 smodel_241 smodel_242 smodel_243 smodel_244 smodel_245 smodel_246 smodel_247 smodel_248 smodel_249 smodel_250 smodel_251 smodel_252 smodel_253 smodel_254 smodel_255 smodel_256 smodel_257 smodel_258 smodel_259 smodel_260 smodel_261 smodel_262 smodel_263 smodel_264 smodel_265 smodel_266 smodel_267 smodel_268 smodel_269 smodel_270 smodel_271 smodel_272 smodel_273 smodel_274 smodel_275 smodel_276 smodel_277 smodel_278 smodel_279 smodel_280 smodel_281 smodel_282 smodel_283 smodel_284 smodel_285 smodel_286 smodel_287 smodel_288 smodel_289 smodel_290 smodel_291 smodel_292 smodel_293 smodel_294 smodel_295 smodel_296 smodel_297 smodel_298 smodel_299 smodel_300 smodel_301 smodel_302 smodel_303 smodel_304 smodel_305 smodel_306 smodel_307 smodel_308 smodel_309 smodel_310 smodel_311 smodel_312 smodel_313 smodel_314 smodel_315 smodel_316 smodel_317 smodel_318 smodel_319 smodel_320 smodel_321 smodel_322 smodel_323 smodel_324 smodel_325 smodel_326 smodel_327 smodel_328 smodel_329 smodel_330 smodel_331 smodel_332 smodel_333 smodel_334 smodel_335 smodel_336 smodel_337 smodel_338 smodel_339 smodel_340 smodel_341 smodel_342 smodel_343 smodel_344 smodel_345 smodel_346 smodel_347 smodel_348 smodel_349 smodel_350 smodel_351 smodel_352 smodel_353 smodel_354 smodel_355 smodel_356 smodel_357 smodel_358 smodel_359 smodel_360 smodel_361 smodel_362 smodel_363 smodel_364 smodel_365 smodel_366 smodel_367 smodel_368 smodel_369 smodel_370 smodel_371 smodel_372 smodel_373 smodel_374 smodel_375 smodel_376 smodel_377 smodel_378 smodel_379 smodel_380 smodel_381 smodel_382 smodel_383 smodel_384 smodel_385 smodel_386 smodel_387 smodel_388 smodel_389 smodel_390 smodel_391 smodel_392 smodel_393 smodel_394 smodel_395 smodel_396 smodel_397 smodel_398 smodel_399 smodel_400 smodel_401 smodel_402 smodel_403 smodel_404 smodel_405 smodel_406 smodel_407 smodel_408 smodel_409 smodel_410 smodel_411 smodel_412 smodel_413 smodel_414 smodel_415 smodel_416 smodel_417 smodel_418 smodel_419 smodel_420 smodel_421 smodel_422 smodel_423 smodel_424 smodel_425 smodel_426 smodel_427 smodel_428 smodel_429 smodel_430 smodel_431 smodel_432 smodel_433 smodel_434 smodel_435 smodel_436 smodel_437 smodel_438 smodel_439 smodel_440 smodel_441 smodel_442 smodel_443 smodel_444 smodel_445 smodel_446 smodel_447 smodel_448 smodel_449 smodel_450 smodel_451 smodel_452 smodel_453 smodel_454 smodel_455 smodel_456 smodel_457 smodel_458 smodel_459 smodel_460 smodel_461 smodel_462 smodel_463 smodel_464 smodel_465 smodel_466 smodel_467 smodel_468 smodel_469 smodel_470 smodel_471 smodel_472 smodel_473 smodel_474 smodel_475 smodel_476 smodel_477 smodel_478 smodel_479 smodel_480 smodel_481 smodel_482 smodel_483 smodel_484 smodel_485 smodel_486 smodel_487 smodel_488 smodel_489 smodel_490 smodel_491 smodel_492 smodel_493 smodel_494 smodel_495 smodel_496 smodel_497 smodel_498 smodel_499 smodel_500 smodel_501 smodel_502 smodel_503 smodel_504 smodel_505 smodel_506 smodel_507 smodel_508 smodel_509 smodel_510 smodel_511 smodel_512 smodel_513 smodel_514 smodel_515 smodel_516 smodel_517 smodel_518 smodel_519 smodel_520 smodel_521 smodel_522 smodel_523 smodel_524 smodel_525 smodel_526 smodel_527 smodel_528 smodel_529 smodel_530 smodel_531 smodel_532 smodel_533 smodel_534 smodel_535 smodel_536 smodel_537 smodel_538 smodel_539 smodel_540 smodel_541 smodel_542 smodel_543 smodel_544 smodel_545 smodel_546 smodel_547 smodel_548 smodel_549 smodel_550 smodel_551 smodel_552 smodel_553 smodel_554 smodel_555 smodel_556 smodel_557 smodel_558
                        revert n c G w hcap b off HG i1 i2 i3 M0 p1 M1 p3 vS q0 q1 q2 q3 w0 hn HSZ vW w1 XF vV iv smodel_1 smodel_2 u54 u55 u56 u57 u58 u59 u60 u61 u62 u63 u64 u65 u66 u67 u68 u69 u70 u71 u72 u73 smodel_3 smodel_4 r smodel_5 smodel_6 smodel_7 smodel_8 wr smodel_9 u14 u15 u16 smodel_10 u18 smodel_11 smodel_12 smodel_13 smodel_14 smodel_15 smodel_16 smodel_17 smodel_18 smodel_19 smodel_20 smodel_21 smodel_22 smodel_23 smodel_24 smodel_25 smodel_26 smodel_27 smodel_28 smodel_29 smodel_30 smodel_31 smodel_32 smodel_33 smodel_34 smodel_35 smodel_36 smodel_37 smodel_38 smodel_39 smodel_40 smodel_41 smodel_42 smodel_43 smodel_44 smodel_45 smodel_46 smodel_47 smodel_48 smodel_49 smodel_50 smodel_51 smodel_52 smodel_53 smodel_54 smodel_55 smodel_56 smodel_57 smodel_58 smodel_59 smodel_60 smodel_61 smodel_62 smodel_63 smodel_64 smodel_65 smodel_66 smodel_67 smodel_68 smodel_69 smodel_70 smodel_71 smodel_72 smodel_73 smodel_74 smodel_75 smodel_76 smodel_77 smodel_78 smodel_79 smodel_80 smodel_81 smodel_82 smodel_83 smodel_84 smodel_85 smodel_86 smodel_87 smodel_88 smodel_89 smodel_90 smodel_91 smodel_92 smodel_93 smodel_94 smodel_95 smodel_96 smodel_97 smodel_98 smodel_99 smodel_100 smodel_101 smodel_102 smodel_103 smodel_104 smodel_105 smodel_106 smodel_107 smodel_108 smodel_109 smodel_110 smodel_111 smodel_112 smodel_113 smodel_114 smodel_115 smodel_116 smodel_117 smodel_118 smodel_119 smodel_120 smodel_121 smodel_122 smodel_123 smodel_124 smodel_125 smodel_126 smodel_127 smodel_128 smodel_129 smodel_130 smodel_131 smodel_132 smodel_133 smodel_134 smodel_135 smodel_136 smodel_137 smodel_138 smodel_139 smodel_140 smodel_141 smodel_142 smodel_143 smodel_144 smodel_145 i F st v hi hmo hv hlt hbl smodel_146 smodel_147 ti e5 x0 x1 nm hnm x3 smodel_148 smodel_149 smodel_150 k hk3 smodel_151 smodel_152 smodel_153 smodel_154 smodel_155 smodel_156 smodel_157 smodel_158 smodel_159 smodel_160 smodel_161 smodel_162 smodel_163 smodel_164 smodel_165 smodel_166 smodel_167 smodel_168 smodel_169 smodel_170 smodel_171 smodel_172 smodel_173 smodel_174 smodel_175 smodel_176 smodel_177 smodel_178 smodel_179 smodel_180 smodel_181 smodel_182 smodel_183 smodel_184 smodel_185 smodel_186 smodel_187 smodel_188 smodel_189 smodel_190 smodel_191 smodel_192 smodel_193 smodel_194 smodel_195 smodel_196 smodel_197 smodel_198 smodel_199 smodel_200 smodel_201 smodel_202 smodel_203 smodel_204 smodel_205 smodel_206 smodel_207 smodel_208 smodel_209 smodel_210 smodel_211 smodel_212 smodel_213 smodel_214 smodel_215 smodel_216 smodel_217 smodel_218 smodel_219 smodel_220 smodel_221 smodel_222 smodel_223 smodel_224 smodel_225 smodel_226 smodel_227 smodel_228 smodel_229 smodel_230 smodel_231 smodel_232 smodel_233 smodel_234 smodel_235 smodel_236 smodel_237 smodel_238 smodel_239 smodel_240 smodel_241 smodel_242 smodel_243 smodel_244 smodel_245 smodel_246 smodel_247 smodel_248 smodel_249 smodel_250 smodel_251 smodel_252 smodel_253 smodel_254 smodel_255 smodel_256 smodel_257 smodel_258 smodel_259 smodel_260 smodel_261 smodel_262 smodel_263 smodel_264 smodel_265 smodel_266 smodel_267 smodel_268 smodel_269 smodel_270 smodel_271 smodel_272 smodel_273 smodel_274 smodel_275 smodel_276 smodel_277 smodel_278 smodel_279 smodel_280 smodel_281 smodel_282 smodel_283 smodel_284 smodel_285 hvk ak ck tk HAB w2 wq u6 smodel_286 smodel_287 smodel_288 smodel_289 smodel_290 smodel_291 smodel_292 smodel_293 smodel_294 smodel_295 smodel_296 smodel_297 smodel_298 smodel_299 smodel_300 smodel_301 smodel_302 smodel_303 smodel_304 smodel_305 smodel_306 smodel_307 smodel_308 smodel_309 smodel_310 smodel_311 smodel_312 smodel_313 smodel_314 smodel_315 smodel_316 smodel_317 smodel_318 smodel_319 smodel_320 smodel_321 smodel_322 smodel_323 smodel_324 smodel_325 smodel_326 smodel_327 smodel_328 smodel_329 smodel_330 smodel_331 smodel_332 smodel_333 smodel_334 smodel_335 smodel_336 smodel_337 smodel_338 smodel_339 smodel_340 smodel_341 smodel_342 smodel_343 smodel_344 smodel_345 smodel_346 smodel_347 smodel_348 smodel_349 smodel_350 smodel_351 smodel_352 smodel_353 smodel_354 smodel_355 smodel_356 smodel_357 smodel_358 smodel_359 smodel_360 smodel_361 smodel_362 smodel_363 smodel_364 smodel_365 smodel_366 smodel_367 smodel_368 smodel_369 smodel_370 smodel_371 smodel_372 smodel_373 smodel_374 smodel_375 smodel_376 smodel_377 smodel_378 smodel_379 smodel_380 smodel_381 smodel_382 smodel_383 smodel_384 smodel_385 smodel_386 smodel_387 smodel_388 smodel_389 smodel_390 smodel_391 smodel_392 smodel_393 smodel_394 smodel_395 smodel_396 smodel_397 smodel_398 smodel_399 smodel_400 smodel_401 smodel_402 smodel_403 smodel_404 smodel_405 smodel_406 smodel_407 smodel_408 smodel_409 smodel_410 smodel_411 smodel_412 smodel_413 smodel_414 smodel_415 smodel_416 smodel_417 smodel_418 smodel_419 smodel_420 we F' st' er hmo' hrw v2 hv2 hv2' smodel_421 smodel_422 smodel_423 smodel_424 smodel_425 smodel_426 smodel_427 smodel_428 smodel_429 smodel_430 smodel_431 smodel_432 smodel_433 smodel_434 smodel_435 smodel_436 smodel_437 smodel_438 smodel_439 smodel_440 smodel_441 smodel_442 smodel_443 smodel_444 smodel_445 smodel_446 smodel_447 smodel_448 smodel_449 smodel_450 smodel_451 smodel_452 smodel_453 smodel_454 smodel_455 smodel_456 smodel_457 smodel_458 smodel_459 smodel_460 smodel_461 smodel_462 smodel_463 smodel_464 smodel_465 smodel_466 smodel_467 smodel_468 smodel_469 smodel_470 smodel_471 smodel_472 smodel_473 smodel_474 smodel_475 smodel_476 smodel_477 smodel_478 smodel_479 smodel_480 smodel_481 smodel_482 smodel_483 smodel_484 smodel_485 smodel_486 smodel_487 smodel_488 smodel_489 smodel_490 smodel_491 smodel_492 smodel_493 smodel_494 smodel_495 smodel_496 smodel_497 smodel_498 smodel_499 smodel_500 smodel_501 smodel_502 smodel_503 smodel_504 smodel_505 smodel_506 smodel_507 smodel_508 smodel_509 smodel_510 smodel_511 smodel_512 smodel_513 smodel_514 u168 smodel_515 smodel_516 smodel_517 smodel_518 smodel_519 smodel_520 smodel_521 smodel_522 smodel_523 smodel_524 smodel_525 smodel_526 smodel_527 smodel_528 smodel_529 smodel_530 smodel_531 smodel_532 smodel_533 smodel_534 smodel_535 smodel_536 smodel_537 smodel_538 smodel_539 smodel_540 smodel_541 smodel_542 smodel_543 smodel_544 smodel_545 smodel_546 smodel_547 smodel_548 smodel_549 smodel_550 smodel_551 smodel_552 smodel_553 smodel_554 za zc smodel_555 smodel_556 smodel_557 smodel_558 wc u17 u74 u75 u76 u77 u78 u79 u80 u81 u82 u83 u84 u85 u86 u87 u88 u89 u90 u91 u92 u93 u94 u95 u96 u97 u98 u99 u100 u101 u102 u103 u104 u105 u106 u107 u108 u109 u110 u111 u112 u113 u114 u115 u116 u117 u118 u119 u120 u121 u122 u123 u124 u125 u126 u127 u128 u129 u130 u131 u132 u133 u134 u135 u136 u137 u138 u139 u140 u141 u142 u143 u144 u145 u146 u147 u148 u149 u150 u151 u152 u153 u154 u155 u156 u157 u158 u159 u160 u161 u162 u163 u164 u165 u166 u167 u169 u170 u171 u172 u173 u174 u175 u176 u177 u178 u179 u180 u181 u182 u183 u184 u185 u186 u187 u188 u189 u190 u191 u192 u193 u194 u195 u196 u197 u198 u199 u200 u201 u202 u203 u204 u205 u206 u207 u208 hM6
                        exact hp_loop.out
              · clear hp_set1 hp_set2 hp_del1 hp_del2 hp_def hp_vers hp_loop
                skip
                rename_i smodel_1 smodel_2 smodel_3 smodel_4 smodel_5 smodel_6 smodel_7 smodel_8 smodel_9
                revert a n c G w hcap b off HG HAB i1 i2 i3 M0 p1 M1 p3 vS q0 q1 q2 q3 w0 hn HSZ vW w1 XF vV iv smodel_1 smodel_2 u54 u55 u56 u57 u58 u59 u60 u61 u62 u63 u64 u65 u66 u67 u68 u69 u70 u71 u72 u73 smodel_3 smodel_4 r smodel_5 smodel_6 smodel_7 smodel_8 smodel_9 ti wr u6 u14 u15 u16 u17 u18 u74 u75 u76 u77 u78 u79 u80 u81 u82 u83 u84 u85 u86 u87 u88 u89 u90 u91 u92 u93 u94 u95 u96 u97 u98 u99 u100 u101 u102 u103 u104 u105 u106 u107 u108 u109 u110 u111 u112 u113 u114 u115 u116 u117 u118 u119 u120 u121 u122 u123 u124 u125 u126 u127 u128 u129 u130 u131 u132 u133 u134 u135 u136 u137 u138 u139 u140 u141 u142 u143 u144 u145 u146 u147 u148 u149 u150 u151 u152 u153 u154 u155 u156 u157 u158 u159 u160 u161 u162 u163 u164 u165 u166 u167 u168 u169 u170 u171 u172 u173 u174 u175 u176 u177 u178 u179 u180 u181 u182 u183 u184 u185 u186 u187 u188 u189 u190 u191 u192 u193 u194 u195 u196 u197 u198 u199 u200 u201 u202 u203 u204 u205 u206 u207 u208 i F st v hi hmo hv hM hlt
                exact hp_last.out
end Go.Proofs.YtpigbnlapcndgaaGreat
