/-
  Load.
-/
import Derived.Test.YtajbieokcdejgaaCeMeth
import Derived.Test.YtajbieokcdejgaaCeLaw
import Derived.Test.YtajbieokcdejgaaCeCb
namespace Go.Proofs.Ytajbieokcdejgaa
open Go.RowKit Go.WideShapes

/-- Whether all these cells may be. -/
def good (S : Nat) (l : Nat → Int) : Prop := ∀ i, i < S → may S (l i) = true
theorem load_no (l : Int) (hl : ¬ (3 ≤ l ∧ l ≤ 20)) (v : Value) (w : World) : Calls Try.prog 18 #[.int .i64 l, v] w fun e w' => e = .returned (.tuple #[.pointer none, .int .i64 1]) ∧ w' = w := by
  have C1 := isLog_no l hl w
  clear hl
  go_enter Try.func18, Try.ntmps18
  go_wp2_with fail
  refine C1.mono ?_
  rintro e w1 ⟨rfl, rfl⟩
  clear C1
  go_wp2
  go_ret2
  exact ⟨rfl, rfl⟩
theorem load_short {L S : Nat} (hS : Sz L S) (a : Option Addr) (n cap : Nat) (hn : n ≠ S * wd L) (w : World) : Calls Try.prog 18 #[.int .i64 (L : Int), .slice a n cap] w fun e w' => e = .returned (.tuple #[.pointer none, .int .i64 4]) ∧ w' = w := by
  have C1 := isLog_yes hS w
  have C2 := size_any hS w
  have C3 := width_any hS w
  have hm := hS.most
  have hw : wd L ≤ 4 := by rcases wd_cases L with e | e | e <;> omega
  have e1 : (S : Int) * (wd L : Int) = ((S * wd L : Nat) : Int) := by rw [Int.natCast_mul]
  have hmn : S * wd L ≤ 4194304 := Nat.le_trans (Nat.mul_le_mul hm hw) (by decide)
  have e2 : IntKind.i64.wrap ((S : Int) * (wd L : Int)) = ((S * wd L : Nat) : Int) := by rw [e1]; exact i64_small (by omega) (by omega)
  have e3 : ((n : Int) != ((S * wd L : Nat) : Int)) = true := by simp; omega
  clear e1
  generalize S * wd L = m at *
  generalize wd L = W at *
  clear hS hn
  go_enter Try.func18, Try.ntmps18
  go_wp2_with fail
  refine C1.mono ?_
  rintro e w1 ⟨rfl, rfl⟩
  clear C1
  go_wp2_with fail
  refine C2.mono ?_
  rintro e w1 ⟨rfl, rfl⟩
  clear C2
  go_wp2_with fail
  refine C3.mono ?_
  rintro e w1 ⟨rfl, rfl⟩
  clear C3
  go_wp2
  go_ret2
  exact ⟨rfl, rfl⟩
set_option maxRecDepth 100000 in
set_option maxHeartbeats 4000000 in
/-- As many bytes as there must be: the cells, or why there are none. -/
theorem load_any {L S : Nat} (hS : Sz L S) (bb off bc : Nat) (x : Nat → Int) (w : World) (hbc : S * wd L ≤ bc) (hb : ∀ j, j < S * wd L → w.cell? ⟨bb, off + j, none⟩ = some (.int .u8 (x j))) (hx : ∀ j, j < S * wd L → 0 ≤ x j ∧ x j < 256) :
    Calls Try.prog 18 #[.int .i64 (L : Int), .slice (some ⟨bb, off, none⟩) (S * wd L) bc] w fun e w' =>
      Below w.heap.size w w' ∧ ((good S (ld (wd L) x) ∧ ∃ g r h, e = .returned (.tuple #[.pointer (some ⟨g, 0, none⟩), .int .i64 0]) ∧ w.heap.size ≤ g ∧ w.heap.size ≤ r ∧ w.heap.size ≤ h ∧ Cl w' g r h L S (ld (wd L) x)) ∨ (¬ good S (ld (wd L) x) ∧ e = .returned (.tuple #[.pointer none, .int .i64 1]))) := by
  have C1 := isLog_yes hS w
  have C2 := size_any hS w
  have C3 := width_any hS w
  have C4 := newRow_any hS w
  have hm := hS.most
  have hp := hS.pos
  have hw : wd L ≤ 4 := by rcases wd_cases L with e | e | e <;> omega
  have hw1 : 1 ≤ wd L := by rcases wd_cases L with e | e | e <;> omega
  have e1 : (S : Int) * (wd L : Int) = ((S * wd L : Nat) : Int) := by rw [Int.natCast_mul]
  have hmn : S * wd L ≤ 4194304 := Nat.le_trans (Nat.mul_le_mul hm hw) (by decide)
  have e2 : IntKind.i64.wrap ((S : Int) * (wd L : Int)) = ((S * wd L : Nat) : Int) := by rw [e1]; exact i64_small (by omega) (by omega)
  have e3 : (((S * wd L : Nat) : Int) != ((S * wd L : Nat) : Int)) = false := by simp
  have hm0 : 0 < S * wd L := Nat.mul_pos (by omega) hw1
  have lb := lt_of_cell (hb 0 hm0)
  have HSZ := Lib.hid hS
  have HCR := Lib.hid (fun (w3 : World) (r h : Nat) (hR : Rw w3 r h (kd L) (wd L) S S (fun _ => 0)) (hrh : r ≠ h) (hbh : bb ≠ h) (hb3 : ∀ j, j < S * wd L → w3.cell? ⟨bb, off + j, none⟩ = some (.int .u8 (x j))) => row_load hR hrh (by omega) hm hbh hbc hb3 hx)
  have HBC := Lib.hid hb
  have HE := Lib.hid (e_load L)
  have HM := Lib.hid (m_load L)
  have HE2 := Lib.hid (e_get L)
  have HM2 := Lib.hid (m_get L)
  have HLD : Hid (∀ i, -2147483648 ≤ ld (wd L) x i ∧ ld (wd L) x i < 2147483648) := fun i => by unfold ld; exact sgn_bound _ (wd_cases L) _
  clear e1 hS hb hx
  generalize ld (wd L) x = l at *
  go_enter Try.func18, Try.ntmps18
  go_wp2_with fail
  refine C1.mono ?_
  rintro e w1 ⟨rfl, rfl⟩
  clear C1
  generalize hmd : S * wd L = m at *
  generalize hWd : wd L = W at *
  go_wp2_with fail
  refine C2.mono ?_
  rintro e w1 ⟨rfl, rfl⟩
  clear C2
  go_wp2_with fail
  refine C3.mono ?_
  rintro e w1 ⟨rfl, rfl⟩
  clear C3
  go_wp2_with fail
  refine C4.mono ?_
  rintro e w2 ⟨r, h, rfl, hr, hh, hR, hb2⟩
  clear C4
  obtain ⟨w3, hw3⟩ : ∃ w3, w2.alloc (.cells #[.int .i64 (L : Int), .iface (rty L) (.pointer (some ⟨r, 0, none⟩))] 51) = w3 := ⟨_, rfl⟩
  have k0 : w3.cell? ⟨w2.heap.size, 0, none⟩ = some (.int .i64 (L : Int)) := by rw [← hw3, World.cell?_alloc_at _ _ _ _ rfl]; rfl
  have k1 : w3.cell? ⟨w2.heap.size, 1, none⟩ = some (.iface (rty L) (.pointer (some ⟨r, 0, none⟩))) := by rw [← hw3, World.cell?_alloc_at _ _ _ _ rfl]; rfl
  have hb3 : Below w2.heap.size w2 w3 := by rw [← hw3]; exact (Below.refl _ w2).alloc (Nat.le_refl _) _
  have hR3 := hR.below (by omega) hb3
  have hlt := hR.lt (by omega)
  have hB3 := hb2.trans (hb3.mono hb2.size)
  have hrh : r ≠ h := by
    intro e
    subst e
    have := hR.hc 0 (by omega)
    rw [hR.r0] at this
    exact kd_ne L _ _ (Option.some.inj this).symm
  have CR := HCR.out w3 r h hR3 hrh (by omega) (fun j hj => (hB3.cell (p := ⟨bb, off + j, none⟩) lb).trans (HBC.out j hj))
  have he := HE.out
  have hmm := fun w => HM.out (some ⟨r, 0, none⟩) w
  generalize hT : rty L = T at *
  generalize loadF L = Y at *
  clear hR hb2 hb3 hR3 HCR HBC HE HM
  go_upto_region 6 with fail
  clear hw3
  go_wp2_with fail
  refine CR.mono ?_
  rintro e w4 ⟨rfl, hR4, hb4⟩
  clear CR
  have k2 := (hb4.cell (p := ⟨w2.heap.size, 0, none⟩) (lt_of_cell k0) (by show w2.heap.size ≠ h; omega)).trans k0
  have k3 := (hb4.cell (p := ⟨w2.heap.size, 1, none⟩) (lt_of_cell k0) (by show w2.heap.size ≠ h; omega)).trans k1
  have HB4 := Lib.hid (hB3.trans (hb4.below hh hB3.size))
  subst hT
  have hCb : Cb w4 w2.heap.size r L S := ⟨k2, k3, HSZ.out⟩
  have C5 := sizeM_cb hCb
  have HC6 := Lib.hid (fun v => mayHold_cb hCb v)
  have HRG := Lib.hid (fun i (hi : i < S) => row_get hR4 i hi (HLD.out i))
  have HFIN : Hid (good S l → Cl w4 w2.heap.size r h L S l) := fun hgd => ⟨k2, k3, by rw [hWd]; exact hR4, HSZ.out, fun j hj => of_decide_eq_true (hgd j hj)⟩
  have he := HE2.out
  have hmm := fun w => HM2.out (some ⟨r, 0, none⟩) w
  have hgr : w1.heap.size ≤ w2.heap.size := by omega
  generalize getF L = Y at *
  generalize rty L = T at *
  generalize w2.heap.size = g at *
  clear hR4 hb4 hCb k0 k1 k2 hB3 HE2 HM2
  go_wp2_with fail
  refine C5.mono ?_
  rintro e w5 ⟨rfl, rfl⟩
  clear C5
  go_wp2_with fail
  go_loopw [32] (fun iv wr => ∃ k : Nat, k ≤ S ∧ iv = .int .i64 (k : Int) ∧ (∀ i, i < k → may S (l i) = true) ∧ wr = w5) (fun iv _ => S - (intOf iv).toNat)
  case atStart => exact ⟨0, Nat.zero_le _, rfl, fun i h => absurd h (by omega), rfl⟩
  case round =>
    obtain ⟨k, hk, rfl, hgd, rfl⟩ := hrel
    by_cases hlt : k < S
    · have t1 : (k : Int) < (S : Int) := by omega
      have CG := HRG.out k hlt
      have CM := HC6.out (l k)
      cases hv : may S (l k) with
      | true =>
        rw [hv] at CM
        have HGD : Hid (∀ i, i < k + 1 → may S (l i) = true) := fun i hi => by
          by_cases e : i = k
          · rw [e]; exact hv
          · exact hgd i (by omega)
        clear hv hgd
        go_wp2_with fail
        refine CG.mono ?_
        rintro e w6 ⟨rfl, rfl⟩
        clear CG
        go_wp2_with fail
        refine CM.mono ?_
        rintro e w6 ⟨rfl, rfl⟩
        clear CM
        go_wp2_with fail
        go_roundw
        case rel => exact ⟨k + 1, by omega, by go_num, HGD.out, by first | rfl | trivial⟩
        case measure => simp [intOf]; omega
      | false =>
        rw [hv] at CM
        have HNG : Hid (¬ good S l) := fun hx => by have := hx k hlt; rw [hv] at this; cases this
        clear hv hgd
        go_wp2_with fail
        refine CG.mono ?_
        rintro e w6 ⟨rfl, rfl⟩
        clear CG
        go_wp2_with fail
        refine CM.mono ?_
        rintro e w6 ⟨rfl, rfl⟩
        clear CM
        go_wp2
        go_ret2
        exact ⟨HB4.out, .inr ⟨HNG.out, rfl⟩⟩
    · have t1 : ¬ (k : Int) < (S : Int) := by omega
      obtain rfl : k = S := by omega
      have HG : Hid (good k l) := hgd
      have HF := Lib.hid (HFIN.out hgd)
      clear hgd
      go_wp2
      go_ret2
      exact ⟨HB4.out, .inl ⟨HG.out, g, rfl, hgr, r, hr, h, hh, HF.out⟩⟩
end Go.Proofs.Ytajbieokcdejgaa
