/-
  The reference's Load of cells of 4 bytes.
-/
import Derived.Lib.EndianBits
import Derived.Test.YtajbieokcdejgaaCeRLoad
import Derived.Test.YtajbieokcdejgaaCeSum
import Derived.Test.YtajbieokcdejgaaCeLoadM
namespace Go.Proofs.Ytajbieokcdejgaa
open Go.RowKit Go.WideShapes

set_option maxRecDepth 100000 in
set_option maxHeartbeats 4000000 in
theorem rload_4 {L S : Nat} (hS : Sz L S) (hW : wd L = 4) (bb off bc : Nat) (g : Nat → Int) (w : World) (hbc : S * 4 ≤ bc) (hb : ∀ j, j < S * 4 → w.cell? ⟨bb, off + j, none⟩ = some (.int .u8 (g j))) (hx : ∀ j, j < S * 4 → 0 ≤ g j ∧ g j < 256) :
    Calls Try.prog 19 #[.int .i64 (L : Int), .slice (some ⟨bb, off, none⟩) (S * 4) bc] w fun e w' =>
      Below w.heap.size w w' ∧ ((good S (ld 4 g) ∧ ∃ q, e = .returned (.tuple #[rv L q S, .int .i64 0]) ∧ w.heap.size ≤ q ∧ Rf w' q S (ld 4 g)) ∨ (¬ good S (ld 4 g) ∧ e = .returned (.tuple #[.agg #[.int .i64 0, .slice none 0 0], .int .i64 1]))) := by
  obtain ⟨w1, hw1⟩ : ∃ w1, w.alloc (.cells #[.int .i64 0, .slice none 0 0] 30) = w1 := ⟨_, rfl⟩
  have hA : Res w1 w.heap.size := by rw [← hw1]; exact Res.new _ _
  have hb1 : Below w.heap.size w w1 := by rw [← hw1]; exact (Below.refl _ w).alloc (Nat.le_refl _) _
  have hs1 : w1.heap.size = w.heap.size + 1 := by rw [← hw1]; simp
  have C1 := rnew_any hS w1
  have HC2 := Lib.hid (fun w => rwidth_any hS w)
  rw [hW] at HC2
  have HC3 := Lib.hid (fun v w => rmay_any hS v w)
  have hm := hS.most
  have hp := hS.pos
  have hle := hS.le
  have e2 : IntKind.i64.wrap (4 * (2 : Int) ^ L) = ((S * 4 : Nat) : Int) := by
    rw [hS.int, IntKind.wrap_i64]
    omega
  have e3 : (((S * 4 : Nat) : Int) != ((S * 4 : Nat) : Int)) = false := by simp
  have lb : bb < w.heap.size := lt_of_cell (hb 0 (by omega))
  have HB := Lib.hid hb
  have HG := Lib.hid hx
  have HL : Hid (∀ i, ld 4 g i = sgn 4 (acc 4 g i 4)) := fun i => rfl
  clear hS hb hx
  generalize ld 4 g = l at *
  go_enter Try.func19, Try.ntmps19
  go_upto_region 1 with fail
  clear hw1
  go_wp2_with fail
  refine C1.mono ?_
  rintro e w2 ⟨q, rfl, hq, hR, hb2⟩
  clear C1
  have HRV : Hid (rv L q S = .agg #[.int .i64 (L : Int), .slice (some ⟨q, 0, none⟩) S S]) := rfl
  rw [HRV.out]
  obtain ⟨w3, hw3⟩ : ∃ w3, w2.alloc (.cells #[.int .i64 (L : Int), .slice (some ⟨q, 0, none⟩) S S] 30) = w3 := ⟨_, rfl⟩
  have HM0 : Hid (w3.cell? ⟨w2.heap.size, 0, none⟩ = some (.int .i64 (L : Int))) := by show _ = _; rw [← hw3]; exact cell_new0 _ _ _ _
  have HM1 : Hid (w3.cell? ⟨w2.heap.size, 1, none⟩ = some (.slice (some ⟨q, 0, none⟩) S S)) := by show _ = _; rw [← hw3]; exact cell_new1 _ _ _ _
  have hb3 : Below w2.heap.size w2 w3 := by rw [← hw3]; exact (Below.refl _ w2).alloc (Nat.le_refl _) _
  have lM := lt_of_cell HM0.out
  have lq2 := hR.lt (by omega)
  have lA := hA.lt
  have HA3 := Lib.hid ((hA.below hb2).below hb3)
  have HB3 := Lib.hid ((hb1.trans (hb2.mono hb1.size)).trans (hb3.mono (Nat.le_trans hb1.size hb2.size)))
  have HR0 : Hid (Rf w3 q S (mix 0 l (fun _ => -1))) := (hR.below (by omega) hb3).congr fun j _ => by unfold mix; rw [if_neg (by omega)]
  have hqw : w.heap.size + 1 ≤ q := by omega
  go_upto_region 4 with fail
  clear hw3
  generalize w2.heap.size = C at *
  clear hA hb1 hb2 hb3 hR
  go_wp2_with fail
  refine (HC2.out _).mono ?_
  rintro e w4 ⟨rfl, rfl⟩
  go_wp2_with fail
  go_loopw [9] (fun iv wr => ∃ k : Nat, k ≤ S ∧ iv = .int .i64 (k : Int) ∧ Rf wr q S (mix k l (fun _ => -1)) ∧ (∀ i, i < k → may S (l i) = true) ∧ But q w4 wr) (fun iv _ => S - (intOf iv).toNat)
  case atStart => exact ⟨0, Nat.zero_le _, rfl, HR0.out, fun i h => absurd h (by omega), But.refl _ _⟩
  case round =>
    clear HR0
    obtain ⟨k, hk, rfl, hR, hgd, hB⟩ := hrel
    have m0 := (hB.cell (p := ⟨C, 0, none⟩) lM (by show C ≠ q; omega)).trans HM0.out
    have m1 := (hB.cell (p := ⟨C, 1, none⟩) lM (by show C ≠ q; omega)).trans HM1.out
    have hAr := HA3.out.but hB (by omega)
    have c0 := hAr.c0
    have c1 := hAr.c1
    have z0 := hAr.z0
    have z1 := hAr.z1
    have hBr := HB3.out.trans (hB.below (B := w.heap.size) (by omega) HB3.out.size)
    by_cases hlt : k < S
    · have t1 : (k : Int) < (S : Int) := by omega
      have HP := Lib.hid (hR.put k hlt (l k))
      rw [mix_upd] at HP
      have HPB := Lib.hid (hB.setCell k (.int .i64 (l k)))
      have d1 := hR.hc k hlt
      have d2 := hR.hz k
      generalize mix k l (fun _ => -1) k = old at d1
      have HZ := Lib.hid (put2_facts c0 c1 (.int .i64 0) (.slice none 0 0))
      have HBR := Lib.hid hBr
      have HBx := Lib.hid hB
      have HGD := Lib.hid hgd
      have HC0 := Lib.hid c0
      have HC1' := Lib.hid c1
      have HZ0 := Lib.hid z0
      have HZ1 := Lib.hid z1
      have HM1' := Lib.hid m1
      have HD1 := Lib.hid d1
      have HD2 := Lib.hid d2
      clear hR hAr hBr hB hgd m0 c0 c1 z0 z1 d1 d2
      go_wp2_with fail
      go_loopw [10, 11] (fun uv iv wq => ∃ p : Nat, p ≤ 4 ∧ iv = .int .i64 (p : Int) ∧ uv = .int .u32 (acc 4 g k p) ∧ wq = wr) (fun _ iv _ => 4 - (intOf iv).toNat)
      case atStart => exact ⟨0, Nat.zero_le _, rfl, rfl, rfl⟩
      case round =>
        rename World => wo
        obtain ⟨p, hpW, rfl, rfl, rfl⟩ := hrel
        by_cases hlp : p < 4
        · have t2 : (p : Int) < 4 := by omega
          rcases (by omega : p = 0 ∨ p = 1 ∨ p = 2 ∨ p = 3) with rfl | rfl | rfl | rfl
          · have hj : 4 * k < S * 4 := by omega
            have d4 : wo.cell? ⟨bb, off + (4 * k), none⟩ = some (.int .u8 (g (4 * k))) := ((HBR.out.cell (p := ⟨bb, off + (4 * k), none⟩) lb)).trans (HB.out _ hj)
            have hgb := HG.out _ hj
            have ha := acc_bound 4 g k 0 (fun i hi => HG.out _ (by omega))
            have HA : Hid (acc 4 g k 1 = acc 4 g k 0 + g (4 * k) * 256 ^ 0) := by
              show _ = _
              rw [show g (4 * k) = g (k * 4 + 0) by congr 1; omega]
              rfl
            generalize g (4 * k) = x at d4 hgb HA
            generalize hE : acc 4 g k 1 = a1 at HA
            have HE := Lib.hid hE
            clear hE
            generalize acc 4 g k 0 = a0 at ha HA
            have t4 : ((4 * k : Nat) : Int) < ((S * 4 : Nat) : Int) := by omega
            have eo : bits BinOp.or .u32 a0 x = a1 := by
              rw [or_above .u32 32 0 rfl a0 (x * 1) _ (by omega) (by omega) (by omega) (by omega) (by omega) (by omega) (by omega), IntKind.wrap_u32, HA.out]
              omega
            go_wp2_with fail
            go_roundw
            case rel => exact ⟨1, by omega, by go_num, by rw [HE.out], trivial⟩
            case measure => simp [intOf]
          · have hj : 4 * k + 1 < S * 4 := by omega
            have d4 : wo.cell? ⟨bb, off + (4 * k + 1), none⟩ = some (.int .u8 (g (4 * k + 1))) := ((HBR.out.cell (p := ⟨bb, off + (4 * k + 1), none⟩) lb)).trans (HB.out _ hj)
            have hgb := HG.out _ hj
            have ha := acc_bound 4 g k 1 (fun i hi => HG.out _ (by omega))
            have HA : Hid (acc 4 g k 2 = acc 4 g k 1 + g (4 * k + 1) * 256 ^ 1) := by
              show _ = _
              rw [show g (4 * k + 1) = g (k * 4 + 1) by congr 1; omega]
              rfl
            generalize g (4 * k + 1) = x at d4 hgb HA
            generalize hE : acc 4 g k 2 = a1 at HA
            have HE := Lib.hid hE
            clear hE
            generalize acc 4 g k 1 = a0 at ha HA
            have t4 : ((4 * k + 1 : Nat) : Int) < ((S * 4 : Nat) : Int) := by omega
            have eo : bits BinOp.or .u32 a0 (x * 256) = a1 := by
              rw [or_above .u32 32 8 rfl a0 (x * 256) _ (by omega) (by omega) (by omega) (by omega) (by omega) (by omega) (by omega), IntKind.wrap_u32, HA.out]
              omega
            go_wp2_with fail
            go_roundw
            case rel => exact ⟨2, by omega, by go_num, by rw [HE.out], trivial⟩
            case measure => simp [intOf]
          · have hj : 4 * k + 2 < S * 4 := by omega
            have d4 : wo.cell? ⟨bb, off + (4 * k + 2), none⟩ = some (.int .u8 (g (4 * k + 2))) := ((HBR.out.cell (p := ⟨bb, off + (4 * k + 2), none⟩) lb)).trans (HB.out _ hj)
            have hgb := HG.out _ hj
            have ha := acc_bound 4 g k 2 (fun i hi => HG.out _ (by omega))
            have HA : Hid (acc 4 g k 3 = acc 4 g k 2 + g (4 * k + 2) * 256 ^ 2) := by
              show _ = _
              rw [show g (4 * k + 2) = g (k * 4 + 2) by congr 1; omega]
              rfl
            generalize g (4 * k + 2) = x at d4 hgb HA
            generalize hE : acc 4 g k 3 = a1 at HA
            have HE := Lib.hid hE
            clear hE
            generalize acc 4 g k 2 = a0 at ha HA
            have t4 : ((4 * k + 2 : Nat) : Int) < ((S * 4 : Nat) : Int) := by omega
            have eo : bits BinOp.or .u32 a0 (x * 65536) = a1 := by
              rw [or_above .u32 32 16 rfl a0 (x * 65536) _ (by omega) (by omega) (by omega) (by omega) (by omega) (by omega) (by omega), IntKind.wrap_u32, HA.out]
              omega
            go_wp2_with fail
            go_roundw
            case rel => exact ⟨3, by omega, by go_num, by rw [HE.out], trivial⟩
            case measure => simp [intOf]
          · have hj : 4 * k + 3 < S * 4 := by omega
            have d4 : wo.cell? ⟨bb, off + (4 * k + 3), none⟩ = some (.int .u8 (g (4 * k + 3))) := ((HBR.out.cell (p := ⟨bb, off + (4 * k + 3), none⟩) lb)).trans (HB.out _ hj)
            have hgb := HG.out _ hj
            have ha := acc_bound 4 g k 3 (fun i hi => HG.out _ (by omega))
            have HA : Hid (acc 4 g k 4 = acc 4 g k 3 + g (4 * k + 3) * 256 ^ 3) := by
              show _ = _
              rw [show g (4 * k + 3) = g (k * 4 + 3) by congr 1; omega]
              rfl
            generalize g (4 * k + 3) = x at d4 hgb HA
            generalize hE : acc 4 g k 4 = a1 at HA
            have HE := Lib.hid hE
            clear hE
            generalize acc 4 g k 3 = a0 at ha HA
            have t4 : ((4 * k + 3 : Nat) : Int) < ((S * 4 : Nat) : Int) := by omega
            have eo : bits BinOp.or .u32 a0 (x * 16777216) = a1 := by
              rw [or_above .u32 32 24 rfl a0 (x * 16777216) _ (by omega) (by omega) (by omega) (by omega) (by omega) (by omega) (by omega), IntKind.wrap_u32, HA.out]
              omega
            go_wp2_with fail
            go_roundw
            case rel => exact ⟨4, by omega, by go_num, by rw [HE.out], trivial⟩
            case measure => simp [intOf]

        · have t2 : ¬ (p : Int) < 4 := by omega
          obtain rfl : p = 4 := by omega
          have ha := acc_bound 4 g k 4 (fun i hi => HG.out _ (by omega))
          have hl := HL.out k
          generalize acc 4 g k 4 = a0 at ha hl
          have hlk := sgn_bound 4 (by omega) a0
          have hsg : sgn 4 a0 = (a0 + 2147483648) % 4294967296 - 2147483648 := by simp [sgn]
          have e4 : wrap64 (wrap32 a0) = l k := by
            rw [hl, hsg]
            unfold wrap64 wrap32
            omega
          clear hsg
          have CM := HC3.out (l k) wo
          cases hv : may S (l k) with
          | true =>
            rw [hv] at CM
            have HGD2 : Hid (∀ i, i < k + 1 → may S (l i) = true) := fun i hi => by
              by_cases e : i = k
              · rw [e]; exact hv
              · exact HGD.out i (by omega)
            have d1 := HD1.out
            have d2 := HD2.out
            generalize l k = lk at *
            clear hv hl
            have m1 := HM1'.out
            go_wp2_with fail
            refine CM.mono ?_
            rintro e w6 ⟨rfl, rfl⟩
            clear CM
            go_wp2_with fail
            go_roundw
            case rel => exact ⟨k + 1, by omega, by go_num, HP.out, HGD2.out, HPB.out⟩
            case measure => simp [intOf]; omega
          | false =>
            rw [hv] at CM
            have HNG : Hid (¬ good S l) := fun hx => by have := hx k hlt; rw [hv] at this; cases this
            have c0 := HC0.out
            have c1 := HC1'.out
            have z0 := HZ0.out
            have z1 := HZ1.out
            generalize l k = lk at *
            clear hv hl
            go_wp2_with fail
            refine CM.mono ?_
            rintro e w6 ⟨rfl, rfl⟩
            clear CM
            obtain ⟨p0, p1, pb⟩ := put2_facts c0 c1 (.int .i64 0) (.slice none 0 0)
            have HBB := Lib.hid (HBR.out.trans (pb.below (Nat.le_refl _) HBR.out.size))
            have HP0 := Lib.hid p0
            have HP1 := Lib.hid p1
            clear p0 p1 pb
            go_wp2_with fail
            have p0 := HP0.out
            have p1 := HP1.out
            refine bodyPost_ret (v := .tuple #[.agg #[.int .i64 0, .slice none 0 0], .int .i64 1]) ?_ rfl ⟨HBB.out, .inr ⟨HNG.out, rfl⟩⟩
            simp [results, Try.results19, go_sem, p0, p1]
    · have t1 : ¬ (k : Int) < (S : Int) := by omega
      obtain rfl : k = S := by omega
      obtain ⟨p0, p1, pb⟩ := put2_facts c0 c1 (.int .i64 (L : Int)) (.slice (some ⟨q, 0, none⟩) k k)
      have HP0 := Lib.hid p0
      have HP1 := Lib.hid p1
      have HRR := Lib.hid ((hR.congr (f' := l) (fun j hj => by unfold mix; rw [if_pos hj])).same (pb.block _ (hR.lt (by omega)) (by omega)))
      have HBB := Lib.hid (hBr.trans (pb.below (Nat.le_refl _) hBr.size))
      have HGG : Hid (good k l) := hgd
      clear hR hB hgd hBr hAr p0 p1 pb
      go_wp2_with fail
      have p0 := HP0.out
      have p1 := HP1.out
      refine bodyPost_ret (v := .tuple #[.agg #[.int .i64 (L : Int), .slice (some ⟨q, 0, none⟩) k k], .int .i64 0]) ?_ rfl ⟨HBB.out, .inl ⟨HGG.out, q, rfl, by omega, HRR.out⟩⟩
      simp [results, Try.results19, go_sem, p0, p1]
end Go.Proofs.Ytajbieokcdejgaa
