/-
  StrollMoves.
-/
import Derived.Test.YtbdpecpmdglalaaGreatStm
import Derived.Deep.CutRange
namespace Go.Proofs.YtbdpecpmdglalaaGreat
open Go.RowKit Go.WideShapes

set_option maxRecDepth 100000 in
set_option maxHeartbeats 8000000 in
theorem smoves_walk (a0 : Option Addr) (n0 c0 : Nat) (l : List Int) (back : Bool) (atI keyI tm : Int) (w : World) (h0 : SlI w a0 n0 c0 l) :
    Calls Tryz.prog 4 #[.slice a0 n0 c0, .bool back, .int .i64 atI, .int .i64 keyI, .int .i64 tm] w fun e w' => e = .returned (.bool true) ∧ Below w.heap.size w w' := by
  have CFl := filled_any a0 n0 c0 l w h0
  obtain ⟨bb, off, hb, hn, hcap, hcell⟩ := h0.open
  clear h0
  obtain ⟨i0, hi0, hz0, hz1, hz2⟩ := info_parts Tryz.infoN
  by_cases hc0 : 0 < n0 ∧ n0 ≤ 100 ∧ 1 ≤ tm ∧ tm ≤ 60
  case neg =>
    have CW := awake9_any w
    clear hcell CFl hn hb hcap
    by_cases h1 : n0 = 0
    · have t0 : ((n0 : Nat) : Int) = 0 := by omega
      clear h1 hc0
      go_enter Tryz.func4, Tryz.ntmps4
      go_wp2_with fail
      refine CW.mono ?_
      rintro e w' ⟨rfl, hB⟩
      clear CW
      go_wp2
      go_ret
      exact ⟨rfl, hB⟩
    · have t0 : ¬ ((n0 : Int) = 0) := by omega
      by_cases h2 : 100 < n0
      · have t1 : (100 : Int) < (n0 : Int) := by omega
        go_enter Tryz.func4, Tryz.ntmps4
        go_wp2_with fail
        refine CW.mono ?_
        rintro e w' ⟨rfl, hB⟩
        clear CW
        go_wp2
        go_ret
        exact ⟨rfl, hB⟩
      · have t1 : ¬ (100 : Int) < (n0 : Int) := by omega
        by_cases h3 : tm < 1
        · go_enter Tryz.func4, Tryz.ntmps4
          go_wp2_with fail
          refine CW.mono ?_
          rintro e w' ⟨rfl, hB⟩
          clear CW
          go_wp2
          go_ret
          exact ⟨rfl, hB⟩
        · have t2 : 60 < tm := by omega
          go_enter Tryz.func4, Tryz.ntmps4
          go_wp2_with fail
          refine CW.mono ?_
          rintro e w' ⟨rfl, hB⟩
          clear CW
          go_wp2
          go_ret
          exact ⟨rfl, hB⟩
  case pos =>
    obtain ⟨hn1, hn2, hm1, hm2⟩ := hc0
    obtain ⟨T, rfl⟩ : ∃ T : Nat, tm = (T : Int) := ⟨tm.toNat, by omega⟩
    have t0 : ¬ ((n0 : Int) = 0) := by omega
    have t1 : ¬ (100 : Int) < (n0 : Int) := by omega
    have t2 : ¬ (T : Int) < 1 := by omega
    have t3 : ¬ (60 : Int) < (T : Int) := by omega
    have CF := CFl (by omega)
    have HC : Hid (∀ W j, Below w.heap.size w W → j < n0 → a0 = some ⟨bb, off, none⟩ ∧ W.cell? ⟨bb, off + j, none⟩ = some (.int .i64 (l[j]?.getD 0))) := fun W j hW hj => ⟨(hb (by omega)).1, (hW.cell (p := ⟨bb, off + j, none⟩) (hb (by omega)).2).trans (hcell j hj)⟩
    obtain ⟨A, hAN, hAr⟩ := tm_cases atI hn1
    obtain ⟨key, hKN, hKr⟩ := tm_cases keyI hn1
    clear hb hcell hn CFl
    obtain ⟨rA, hrA⟩ : ∃ rA, Int.tmod atI (n0 : Int) = rA := ⟨_, rfl⟩
    obtain ⟨rK, hrK⟩ : ∃ rK, Int.tmod keyI (n0 : Int) = rK := ⟨_, rfl⟩
    rw [hrA] at hAr
    rw [hrK] at hKr
    have eA : IntKind.i64.wrap rA = rA := i64_small (by rcases hAr with h | h <;> omega) (by rcases hAr with h | h <;> omega)
    have eK : IntKind.i64.wrap rK = rK := i64_small (by rcases hKr with h | h <;> omega) (by rcases hKr with h | h <;> omega)
    have HAr := Lib.hid hAr
    have HKr := Lib.hid hKr
    clear hAr hKr
    go_enter Tryz.func4, Tryz.ntmps4
    go_wp2_with fail
    refine CF.mono ?_
    rintro e w1 ⟨d, rfl, hFil⟩
    clear CF
    have HFil := Lib.hid hFil
    have hsz1 : w.heap.size ≤ w1.heap.size := by obtain ⟨_, _, _, _, _, _, p, _⟩ := hFil; exact p.bl.size
    clear hFil
    go_upto_if 60 with fail
    go_cut [2] from 27 (fun v W => v = .int .i64 (A : Int) ∧ W = w1)
    case first =>
      rcases HAr.out with hA | ⟨hA1, hA2⟩
      · have qA : ¬ rA < 0 := by omega
        go_wp2_with fail
        go_meet
        case rel => exact ⟨by first | rfl | rw [hA], rfl⟩
      · have qA : IntKind.i64.wrap (rA + (n0 : Int)) = (A : Int) := by rw [i64_small (by omega) (by omega)]; exact hA2
        go_wp2_with fail
        go_meet
        case rel => exact ⟨by first | rfl | (congr 1), rfl⟩
    case rest =>
      obtain ⟨rfl, hwc⟩ := hcut
      have hwc' : w1 = wc := hwc.symm
      clear hwc
      subst hwc'
      clear hrA HAr eA
      go_upto_if 65 with fail
      go_cut [3] from 27 (fun v W => v = .int .i64 (key : Int) ∧ W = w1)
      case first =>
        rcases HKr.out with hK | ⟨hK1, hK2⟩
        · have qK : ¬ rK < 0 := by omega
          go_wp2_with fail
          go_meet
          case rel => exact ⟨by first | rfl | rw [hK], rfl⟩
        · have qK : IntKind.i64.wrap (rK + (n0 : Int)) = (key : Int) := by rw [i64_small (by omega) (by omega)]; exact hK2
          go_wp2_with fail
          go_meet
          case rel => exact ⟨by first | rfl | (congr 1), rfl⟩
      case rest =>
        obtain ⟨rfl, hwc⟩ := hcut
        have hwc' : w1 = wc := hwc.symm
        clear hwc
        subst hwc'
        clear hrK HKr eK
        go_wp2_with fail
        go_loopw [14, 15, 16] (fun vv iv _ wr => ∃ i : Nat, i ≤ n0 ∧ iv = .int .i64 (i : Int) ∧ IntsR w1.heap.size wr vv (wl0 back n0 A key i) ∧ Below w1.heap.size w1 wr) (fun _ iv _ _ => n0 - (intOf iv).toNat)
        case atStart => exact ⟨0, Nat.zero_le _, rfl, IntsR.nil _ _, Below.refl _ _⟩
        case round =>
          as_aux_lemma =>
            obtain ⟨i, hi, rfl, hIn, hB⟩ := hrel
            by_cases hil : i < n0
            · have ti : (i : Int) < (n0 : Int) := by omega
              have e1 : IntKind.i64.wrap ((i : Int) + 1) = ((i + 1 : Nat) : Int) := by rw [i64_small (by omega) (by omega)]; omega
              cases back with
              | true =>
                obtain ⟨kv, hkv⟩ : ∃ kv, kx true n0 i = kv := ⟨_, rfl⟩
                have hkd : kv = n0 - 1 - i := by rw [← hkv]; rfl
                have e16a : IntKind.i64.wrap ((n0 : Int) - 1) = (n0 : Int) - 1 := i64_small (by omega) (by omega)
                have e16b : IntKind.i64.wrap ((n0 : Int) - 1 - (i : Int)) = (kv : Int) := by rw [i64_small (by omega) (by omega)]; omega
                have e16c : (n0 : Int) - 1 - (i : Int) = (kv : Int) := by omega
                have hkl : kv < n0 := by omega
                clear hkd
                by_cases hc : i < A ∨ kv ≠ key
                · have hown : wr.ownsRow w1.heap.size 3 1 u14 (wl0 true n0 A key i).length ((wl0 true n0 A key i).map fun x : Int => Value.int .i64 x) := hIn
                  have hll : (wl0 true n0 A key i).length ≤ i := by
                    unfold wl0
                    rw [List.length_map]
                    exact Nat.le_trans (List.length_filter_le _ _) (by simp)
                  have FIN : Hid (∀ (v' : Value) (w2 : World), w2.ownsRow w1.heap.size 3 1 v' ((wl0 true n0 A key i).length + 1) (((wl0 true n0 A key i).map fun x : Int => Value.int .i64 x) ++ [.int .i64 (kv : Int)]) → IntsR w1.heap.size w2 v' (wl0 true n0 A key (i + 1))) := by
                    intro v' w2 h5
                    rw [wl0_yes (by rw [hkv]; exact hc), hkv]
                    exact intsR_snoc h5
                  obtain ⟨R, hR⟩ : ∃ R, ((wl0 true n0 A key i).map fun x : Int => Value.int .i64 x) = R := ⟨_, rfl⟩
                  obtain ⟨ln, hln⟩ : ∃ ln, (wl0 true n0 A key i).length = ln := ⟨_, rfl⟩
                  rw [hR, hln] at hown FIN
                  rw [hln] at hll
                  have hsz := hB.size
                  clear hR hIn hln hkv
                  by_cases hc1 : i < A
                  · have tc : (i : Int) < (A : Int) := by omega
                    go_wp2_with (at_builtin; refine wpList_append_own _ rfl _ _ 40 rfl w1.heap.size 3 i0 (.int .i64 0) 1 8 Tryz.underlying40 hi0 hz0 hz1 hz2 rfl (by decide) _ _ _ rfl (World.ownsRow.alloc hown _) ⟨wr.heap.size, 0, none⟩ 1 1 [.int .i64 (kv : Int)] rfl rfl (newR_one _ _ _) (by simp [Value.oneCell']) (by unfold maxLen; omega) (by omega) (by simp; omega) ?_; intro v' w2 hown2 hgrow _; have hI2 := Lib.hid (FIN.out v' w2 hown2); have hgrow' : (wr.alloc (.cells #[.int .i64 (kv : Int)] 3)).grownBy w2 u14.ownBlock := hgrow; have hb2 := belowR_grown hB (Nat.le_refl _) hown hgrow'; clear hgrow hgrow' hown2)
                    go_roundw
                    case rel => exact ⟨i + 1, by omega, rfl, hI2.out, hb2⟩
                    case measure => simp [intOf]; omega
                  · have tc : ¬ (i : Int) < (A : Int) := by omega
                    have td : ((kv : Int) = (key : Int)) = False := by simp; omega
                    have te : ((kv : Int) != (key : Int)) = true := by simp; omega
                    go_wp2_with (at_builtin; refine wpList_append_own _ rfl _ _ 40 rfl w1.heap.size 3 i0 (.int .i64 0) 1 8 Tryz.underlying40 hi0 hz0 hz1 hz2 rfl (by decide) _ _ _ rfl (World.ownsRow.alloc hown _) ⟨wr.heap.size, 0, none⟩ 1 1 [.int .i64 (kv : Int)] rfl rfl (newR_one _ _ _) (by simp [Value.oneCell']) (by unfold maxLen; omega) (by omega) (by simp; omega) ?_; intro v' w2 hown2 hgrow _; have hI2 := Lib.hid (FIN.out v' w2 hown2); have hgrow' : (wr.alloc (.cells #[.int .i64 (kv : Int)] 3)).grownBy w2 u14.ownBlock := hgrow; have hb2 := belowR_grown hB (Nat.le_refl _) hown hgrow'; clear hgrow hgrow' hown2)
                    go_roundw
                    case rel => exact ⟨i + 1, by omega, rfl, hI2.out, hb2⟩
                    case measure => simp [intOf]; omega
                · have tc : ¬ (i : Int) < (A : Int) := by omega
                  have tk : kv = key := by omega
                  have HN : Hid (IntsR w1.heap.size wr u14 (wl0 true n0 A key (i + 1))) := by
                    rw [wl0_no (by rw [hkv]; exact hc)]
                    exact hIn
                  have td : ((kv : Int) != (key : Int)) = false := by rw [tk]; simp
                  have td2 : (kv : Int) = (key : Int) := by omega
                  clear hIn hkv hc tk
                  go_wp2_with fail
                  go_roundw
                  case rel => exact ⟨i + 1, by omega, by first | rfl | (congr 1; omega), HN.out, hB⟩
                  case measure => simp [intOf]; omega
              | false =>
                have hkv : kx false n0 i = i := rfl
                skip
                by_cases hc : i < A ∨ i ≠ key
                · have hown : wr.ownsRow w1.heap.size 3 1 u14 (wl0 false n0 A key i).length ((wl0 false n0 A key i).map fun x : Int => Value.int .i64 x) := hIn
                  have hll : (wl0 false n0 A key i).length ≤ i := by
                    unfold wl0
                    rw [List.length_map]
                    exact Nat.le_trans (List.length_filter_le _ _) (by simp)
                  have FIN : Hid (∀ (v' : Value) (w2 : World), w2.ownsRow w1.heap.size 3 1 v' ((wl0 false n0 A key i).length + 1) (((wl0 false n0 A key i).map fun x : Int => Value.int .i64 x) ++ [.int .i64 (i : Int)]) → IntsR w1.heap.size w2 v' (wl0 false n0 A key (i + 1))) := by
                    intro v' w2 h5
                    rw [wl0_yes (by rw [hkv]; exact hc), hkv]
                    exact intsR_snoc h5
                  obtain ⟨R, hR⟩ : ∃ R, ((wl0 false n0 A key i).map fun x : Int => Value.int .i64 x) = R := ⟨_, rfl⟩
                  obtain ⟨ln, hln⟩ : ∃ ln, (wl0 false n0 A key i).length = ln := ⟨_, rfl⟩
                  rw [hR, hln] at hown FIN
                  rw [hln] at hll
                  have hsz := hB.size
                  clear hR hIn hln hkv
                  by_cases hc1 : i < A
                  · have tc : (i : Int) < (A : Int) := by omega
                    go_wp2_with (at_builtin; refine wpList_append_own _ rfl _ _ 40 rfl w1.heap.size 3 i0 (.int .i64 0) 1 8 Tryz.underlying40 hi0 hz0 hz1 hz2 rfl (by decide) _ _ _ rfl (World.ownsRow.alloc hown _) ⟨wr.heap.size, 0, none⟩ 1 1 [.int .i64 (i : Int)] rfl rfl (newR_one _ _ _) (by simp [Value.oneCell']) (by unfold maxLen; omega) (by omega) (by simp; omega) ?_; intro v' w2 hown2 hgrow _; have hI2 := Lib.hid (FIN.out v' w2 hown2); have hgrow' : (wr.alloc (.cells #[.int .i64 (i : Int)] 3)).grownBy w2 u14.ownBlock := hgrow; have hb2 := belowR_grown hB (Nat.le_refl _) hown hgrow'; clear hgrow hgrow' hown2)
                    go_roundw
                    case rel => exact ⟨i + 1, by omega, rfl, hI2.out, hb2⟩
                    case measure => simp [intOf]; omega
                  · have tc : ¬ (i : Int) < (A : Int) := by omega
                    have td : ((i : Int) = (key : Int)) = False := by simp; omega
                    have te : ((i : Int) != (key : Int)) = true := by simp; omega
                    go_wp2_with (at_builtin; refine wpList_append_own _ rfl _ _ 40 rfl w1.heap.size 3 i0 (.int .i64 0) 1 8 Tryz.underlying40 hi0 hz0 hz1 hz2 rfl (by decide) _ _ _ rfl (World.ownsRow.alloc hown _) ⟨wr.heap.size, 0, none⟩ 1 1 [.int .i64 (i : Int)] rfl rfl (newR_one _ _ _) (by simp [Value.oneCell']) (by unfold maxLen; omega) (by omega) (by simp; omega) ?_; intro v' w2 hown2 hgrow _; have hI2 := Lib.hid (FIN.out v' w2 hown2); have hgrow' : (wr.alloc (.cells #[.int .i64 (i : Int)] 3)).grownBy w2 u14.ownBlock := hgrow; have hb2 := belowR_grown hB (Nat.le_refl _) hown hgrow'; clear hgrow hgrow' hown2)
                    go_roundw
                    case rel => exact ⟨i + 1, by omega, rfl, hI2.out, hb2⟩
                    case measure => simp [intOf]; omega
                · have tc : ¬ (i : Int) < (A : Int) := by omega
                  have tk : i = key := by omega
                  have HN : Hid (IntsR w1.heap.size wr u14 (wl0 false n0 A key (i + 1))) := by
                    rw [wl0_no (by rw [hkv]; exact hc)]
                    exact hIn
                  have td : ((i : Int) != (key : Int)) = false := by rw [tk]; simp
                  have td2 : (i : Int) = (key : Int) := by omega
                  clear hIn hkv hc tk
                  go_wp2_with fail
                  go_roundw
                  case rel => exact ⟨i + 1, by omega, by first | rfl | (congr 1; omega), HN.out, hB⟩
                  case measure => simp [intOf]; omega
            · have hie : i = n0 := by omega
              have ti : ¬ (i : Int) < (n0 : Int) := by omega
              rw [hie] at hIn
              clear hie hil hi
              have hsz := hB.size
              have hll : (wl0 back n0 A key n0).length ≤ n0 := by
                unfold wl0
                rw [List.length_map]
                exact Nat.le_trans (List.length_filter_le _ _) (by simp)
              go_upto_if 93 with fail
              go_cut [14] from 27 (fun v W => IntsR w1.heap.size W v (if back = true then wl0 back n0 A key n0 else wl0 back n0 A key n0 ++ [(key : Int)]) ∧ Below w1.heap.size w1 W)
              case first =>
                cases back with
                | true =>
                  go_wp2_with fail
                  go_meet
                  case rel => exact ⟨hIn, hB⟩
                | false =>
                  have hown : wr.ownsRow w1.heap.size 3 1 u14 (wl0 false n0 A key n0).length ((wl0 false n0 A key n0).map fun x : Int => Value.int .i64 x) := hIn
                  have FIN : Hid (∀ (v' : Value) (w2 : World), w2.ownsRow w1.heap.size 3 1 v' ((wl0 false n0 A key n0).length + 1) (((wl0 false n0 A key n0).map fun x : Int => Value.int .i64 x) ++ [.int .i64 (key : Int)]) → IntsR w1.heap.size w2 v' (wl0 false n0 A key n0 ++ [(key : Int)])) := fun v' w2 h5 => intsR_snoc h5
                  obtain ⟨R, hR⟩ : ∃ R, ((wl0 false n0 A key n0).map fun x : Int => Value.int .i64 x) = R := ⟨_, rfl⟩
                  obtain ⟨ln, hln⟩ : ∃ ln, (wl0 false n0 A key n0).length = ln := ⟨_, rfl⟩
                  rw [hR, hln] at hown FIN
                  rw [hln] at hll
                  clear hR hIn hln
                  go_wp2_with (at_builtin; refine wpList_append_own _ rfl _ _ 40 rfl w1.heap.size 3 i0 (.int .i64 0) 1 8 Tryz.underlying40 hi0 hz0 hz1 hz2 rfl (by decide) _ _ _ rfl (World.ownsRow.alloc hown _) ⟨wr.heap.size, 0, none⟩ 1 1 [.int .i64 (key : Int)] rfl rfl (newR_one _ _ _) (by simp [Value.oneCell']) (by unfold maxLen; omega) (by omega) (by simp; omega) ?_; intro v' w2 hown2 hgrow _; have hI2 := Lib.hid (FIN.out v' w2 hown2); have hgrow' : (wr.alloc (.cells #[.int .i64 (key : Int)] 3)).grownBy w2 u14.ownBlock := hgrow; have hb2 := belowR_grown hB (Nat.le_refl _) hown hgrow'; clear hgrow hgrow' hown2)
                  go_meet
                  case rel => exact ⟨hI2.out, hb2⟩
              case rest =>
                clear hIn hB hsz
                obtain ⟨hIn, hB⟩ := hcut
                have hsz := hB.size
                rename World => wb
                go_upto_region 24 with fail
                go_cut [102] from 27 (fun v W => v = .bool (back && decide (A = 0)) ∧ W = wb)
                case first =>
                  cases back with
                  | true =>
                    go_wp2_with fail
                    go_meet
                    case rel => exact ⟨by by_cases hA0 : A = 0 <;> simp [hA0], rfl⟩
                  | false =>
                    go_wp2_with fail
                    go_meet
                    case rel => exact ⟨rfl, rfl⟩
                case rest =>
                  obtain ⟨rfl, hwc⟩ := hcut
                  have hwc' : wb = wc := hwc.symm
                  clear hwc
                  subst hwc'
                  obtain ⟨c, hc⟩ : ∃ c, (back && decide (A = 0)) = c := ⟨_, rfl⟩
                  rw [hc]
                  have HC2 := Lib.hid hc
                  clear hc
                  go_upto_if 102 with fail
                  go_cut [14] from 27 (fun v W => IntsR w1.heap.size W v (wl back n0 A key) ∧ Below w1.heap.size w1 W)
                  case first =>
                    cases c with
                    | false =>
                      have hwl : (if back = true then wl0 back n0 A key n0 else wl0 back n0 A key n0 ++ [(key : Int)]) = wl back n0 A key := by
                        have h := HC2.out
                        unfold wl
                        cases back with
                        | true => simp at h; simp [h]
                        | false => rfl
                      rw [hwl] at hIn
                      go_wp2_with fail
                      go_meet
                      case rel => exact ⟨hIn, hB⟩
                    | true =>
                      have h := HC2.out
                      have hwl : wl back n0 A key = (key : Int) :: (if back = true then wl0 back n0 A key n0 else wl0 back n0 A key n0 ++ [(key : Int)]) := by
                        simp at h
                        unfold wl
                        rw [if_pos h.1, if_pos h.2, if_pos h.1]
                      have hb : back = true := by simp at h; exact h.1
                      rw [if_pos hb] at hwl hIn
                      clear h hb HC2
                      have FIN : Hid (∀ (v' : Value) (w2 : World), w2.ownsRow w1.heap.size 3 1 v' (1 + (wl0 back n0 A key n0).length) ([Value.int .i64 (key : Int)] ++ (wl0 back n0 A key n0).map fun x : Int => Value.int .i64 x) → (wb.alloc (.cells #[.int .i64 (key : Int)] 3)).grownBy w2 (Value.slice (some ⟨wb.heap.size, 0, none⟩) 1 1).ownBlock → Hid (IntsR w1.heap.size w2 v' (wl back n0 A key) ∧ Below w1.heap.size w1 w2)) := by
                        intro v' w2 h1 h2
                        rw [hwl]
                        exact cons_own hB (Nat.le_refl _) h1 h2
                      obtain ⟨L, hL⟩ : ∃ L, wl0 back n0 A key n0 = L := ⟨_, rfl⟩
                      rw [hL] at hIn FIN hll
                      clear hL hwl
                      have nn := rowI_new wb (key : Int) hsz
                      rcases (show wb.ownsRow w1.heap.size 3 1 u14 L.length (L.map fun x : Int => Value.int .i64 x) from hIn).2 with ⟨rfl, h1⟩ | ⟨g, cap, cur, rfl, hg, hh, _⟩
                      · obtain rfl : L = [] := List.eq_nil_of_length_eq_zero h1
                        have ha := run_append_nilI
                        have HF := FIN.out _ _ nn (World.grownBy.refl _ _)
                        clear nn hIn
                        go_wp2_with fail
                        go_meet
                        case rel => exact HF.out
                      · have hgl := (Array.getElem?_eq_some_iff.1 hh).1
                        have hs' : ∀ j u, (L.map fun x : Int => Value.int .i64 x)[j]? = some u → (wb.alloc (.cells #[.int .i64 (key : Int)] 3)).cell? (Addr.add ⟨g, 0, none⟩ j) = some u := fun j u hj => by
                          have := rowI_cells hIn j u hj
                          rw [WideShapes.add_plain] at this ⊢
                          exact (((Below.refl _ wb).alloc (Nat.le_refl _) _).cell (p := ⟨g, 0 + j, none⟩) hgl).trans this
                        clear hh hIn
                        go_wp2_with (at_builtin; refine wpList_append_own _ rfl _ _ 40 rfl w1.heap.size 3 i0 (.int .i64 0) 1 8 Tryz.underlying40 hi0 hz0 hz1 hz2 rfl (by decide) _ _ _ rfl nn ⟨g, 0, none⟩ L.length cap (L.map fun x : Int => Value.int .i64 x) rfl (by simp) hs' (by intro u hu; simp at hu; obtain ⟨x, _, rfl⟩ := hu; rfl) (by unfold maxLen; omega) (by omega) (by simp; omega) ?_; intro v' w2 hown2 hgrow _; have HF := FIN.out v' w2 hown2 hgrow; clear hown2 hgrow)
                        go_meet
                        case rel => exact HF.out
                  case rest =>
                    clear hIn hB hsz hll HC2
                    obtain ⟨hIn, hB⟩ := hcut
                    obtain ⟨a, cap, gv, rfl, hcp, hq⟩ := hIn.open
                    have hlp := wl_pos (back := back) (key := key) (Nat.le_of_lt hAN)
                    have hle := wl_le (back := back) (N := n0) (at' := A) (key := key)
                    obtain ⟨rfl, hgl, hgB, hbk⟩ := hq hlp
                    obtain ⟨t, g, gi, r, h, ev, hP, hFl⟩ := HFil.out
                    have hP0 := (hP.below hB).withK (K' := fun k => k = gv) (fun k hk => by rw [hk]; exact ⟨hgl, fun hc => by have := hP.dc.lt _ hc; omega⟩)
                    have CN := ln_new hP0 back
                    have hlv := hFl.live
                    rw [hlv] at CN
                    have HFl := Lib.hid hFl
                    have Hbk := Lib.hid hbk
                    clear hFl hP hP0 hbk hlv hq hIn HFil
                    obtain ⟨M, hM⟩ : ∃ M, (wl back n0 A key).length = M := ⟨_, rfl⟩
                    rw [hM]
                    go_wp2_with fail
                    refine CN.mono ?_
                    rintro e w3 ⟨s, rfl, hs, b, hbs, hS, hPs, hB3⟩
                    clear CN
                    have hz := eqSr s
                    have hPz := hPs.size
                    have h1 := hB.size
                    have h2 := hB3.size
                    have HM : Hid (MoS w w3 d s b gv l n0 A key T back 0 (tdAt back n0 0)) := by
                      refine ⟨?_, ?_, Hbk.out.of hB3 hlp, ⟨by omega, by omega, by omega⟩, ⟨by omega, by omega⟩, fun _ => rfl, fun h => absurd h (Nat.not_lt_zero _), ?_, ?_⟩
                      · rw [if_pos (Nat.zero_le _)]
                        exact mv_zero hPs HFl.out
                      · have : tdAt back n0 0 = (if back = true then 9223372036854775807 else -1) := by unfold tdAt; cases back <;> simp
                        rw [this]
                        exact hS
                      · unfold tdAt; cases back <;> simp
                      · intro hb; subst hb; unfold tdAt; simp
                    clear hS hPs Hbk HFl
                    rw [hM] at hlp hle
                    have HMM := Lib.hid hM
                    clear hM
                    go_wp2_with fail
                    clear hz
                    go_loopw [18, 19, 20, 21, 22, 23, 24] (fun iv _ _ _ _ _ _ wr => ∃ (i : Nat) (told : Int), i ≤ M ∧ iv = .int .i64 (i : Int) ∧ MoS w wr d s b gv l n0 A key T back i told) (fun iv _ _ _ _ _ _ _ => M - (intOf iv).toNat)
                    case atStart => exact ⟨0, _, Nat.zero_le _, rfl, HM.out⟩
                    case round =>
                      as_aux_lemma =>
                        clear HM
                        obtain ⟨i, told, hi, rfl, hS⟩ := hrel
                        by_cases hil : i < M
                        · have ti : (i : Int) < (M : Int) := by omega
                          have HS := Lib.hid hS
                          clear hS
                          go_upto_if 120 with fail
                          go_cut [19, 20, 21, 22] from 112 to 179 (fun _ _ _ _ W => MoT w W d s b gv l n0 A key T back i told)
                          case first =>
                            as_aux_lemma =>
                              by_cases hiA : i = A
                              · subst hiA
                                rw [show ((i : Int) == (i : Int)) = true from by simp]
                                have HT0 : Hid (MoK w wr d s b gv l n0 key back told (wl back n0 i key) 0) := ⟨by have := HS.out.mv; rw [if_pos (Nat.le_refl _)] at this; exact this, HS.out.sr, HS.out.bk⟩
                                have HGE := Lib.hid HS.out.ge
                                rename World => wo
                                go_wp2_with fail
                                go_loopw [19, 20, 21, 22] (fun kv _ _ _ wr => ∃ k : Nat, k ≤ T ∧ kv = .int .i64 (k : Int) ∧ MoK w wr d s b gv l n0 key back told (wl back n0 i key) k) (fun kv _ _ _ _ => T - (intOf kv).toNat)
                                case atStart => exact ⟨0, Nat.zero_le _, rfl, HT0.out⟩
                                case round =>
                                  as_aux_lemma =>
                                    clear HT0
                                    obtain ⟨k, hk, rfl, hMv, hSr, hBk⟩ := hrel
                                    by_cases hkT : k < T
                                    · have tk : (k : Int) < (T : Int) := by omega
                                      obtain ⟨t, g, gi, r, h, ev, v, c⟩ := hMv
                                      obtain ⟨ha0, hc⟩ := HC.out wr key c.pd.bl hKN
                                      subst ha0
                                      have CB := rd_begin c.pd 3 (by decide) (by decide) (l[key]?.getD 0) (key : Int) 0
                                      have tkl : (key : Int) < (n0 : Int) := by omega
                                      have HFT := Lib.hid (c.fit (by omega) (by omega))
                                      have HLV : Hid ((liveL t.es).length = n0) := by rw [c.eq]; exact wsM_len l hKN k
                                      have HC5 := Lib.hid c
                                      have HSr := Lib.hid hSr
                                      have HBk := Lib.hid hBk
                                      clear c hSr hBk
                                      go_wp2_with fail
                                      refine CB.mono ?_
                                      rintro e w5 ⟨x, rfl, hR5, hK5⟩
                                      clear CB hc
                                      have CS := rd_step hR5 HFT.out
                                      have h2 := eqMa x
                                      have HSr5 := Lib.hid (HSr.out.same (hK5 s (.inr (.inl rfl))) (hK5 b (.inr (.inr rfl))))
                                      have HBk5 := Lib.hid (HBk.out.same (hK5 gv (.inl rfl)))
                                      clear hR5 hK5 HSr HBk
                                      go_wp2_with fail
                                      refine CS.mono ?_
                                      rintro e w6 ⟨u, rfl, hQ, hK6⟩
                                      clear CS h2
                                      unfold tuV
                                      obtain ⟨w7, hw7⟩ : ∃ y, w6.alloc (.cells #[.int .i64 u.kind, .int .i64 u.key, .bool u.found, .int .i64 u.value, .int .i64 u.entry] 48) = y := ⟨_, rfl⟩
                                      have hB7 : Below w6.heap.size w6 w7 := by rw [← hw7]; exact (Below.refl _ w6).alloc (Nat.le_refl _) _
                                      have hl7 : w6.heap.size < w7.heap.size := by rw [← hw7]; simp
                                      have hblk7 : Blk w7 w6.heap.size 5 (tuB u) := by rw [← hw7]; exact tuBM_new w6 u
                                      have hA7 : w.heap.size ≤ w6.heap.size := lwqM_pd hQ
                                      have HL7 : Hid (MoL (fun k => k = w6.heap.size ∨ (k = gv ∨ k = s ∨ k = b)) w w7 d x w6.heap.size s b gv l n0 key k t v back told (wl back n0 i key) 0) := by
                                        refine ⟨u, hblk7, (HSr5.out.same (hK6 s (.inr (.inl rfl))) (hK6 b (.inr (.inr rfl)))).below hB7, (HBk5.out.same (hK6 gv (.inl rfl))).of hB7 (by rw [HMM.out]; exact hlp), ?_⟩
                                        rcases mv_step HC5.out hKN (fun n hn => by omega) hQ with ⟨q, _, hq, hl, hno, hu, g, gi, r, h, ev, s', j, f, hA⟩ | ⟨h1, h2, h3⟩
                                        · exact .inl ⟨q, Nat.zero_le _, hq, hl, hno, hu, g, gi, r, h, ev, s', j, f, hA.ext hB7 hl7⟩
                                        · exact .inr ⟨h1, h2, h3.ext hB7 hl7⟩
                                      have hsl := (HSr5.out.same (hK6 s (.inr (.inl rfl))) (hK6 b (.inr (.inr rfl)))).lt
                                      have hgl := (HBk5.out.same (hK6 gv (.inl rfl))).lt (by rw [HMM.out]; exact hlp)
                                      have HNE : Hid (gv ≠ w6.heap.size ∧ s ≠ w6.heap.size ∧ b ≠ w6.heap.size) := ⟨by omega, by omega, by omega⟩
                                      have HW7 := Lib.hid hw7
                                      clear hQ hw7 hB7 hl7 hblk7 hK6 HSr5 HBk5 hsl hgl
                                      go_upto_region 40 with fail
                                      rw [HW7.out]
                                      clear HW7
                                      generalize w6.heap.size = A7 at *
                                      go_wp2_with fail
                                      go_loopw [22] (fun nv wr => ∃ n : Nat, n ≤ n0 + 1 ∧ nv = .int .i64 (n : Int) ∧ MoL (fun k => k = A7 ∨ (k = gv ∨ k = s ∨ k = b)) w wr d x A7 s b gv l n0 key k t v back told (wl back n0 i key) n) (fun nv _ => n0 + 1 - (intOf nv).toNat)
                                      case atStart => exact ⟨0, Nat.zero_le _, rfl, HL7.out⟩
                                      case round =>
                                        as_aux_lemma =>
                                          clear HL7
                                          obtain ⟨n, hn, rfl, u, hblk, hSr4, hBk4, hcase⟩ := hrel
                                          rcases hcase with ⟨q, hnq, hql, hqv, hno, rfl, g5, gi5, r5, h5, ev5, s5, j5, f5, hAw⟩ | ⟨hk8, hf8, hMk⟩
                                          · have hcl := cnt_lt hqv hql
                                            rw [HLV.out] at hcl
                                            have tn : (n : Int) ≤ (n0 : Int) := by omega
                                            have p0 : wr.cell? ⟨A7, 0, none⟩ = some (.int .i64 1) := hblk.c 0 (by omega)
                                            have CT := rd_tell hAw
                                            have HBL := Lib.hid hblk
                                            have HS4 := Lib.hid hSr4
                                            have HB4 := Lib.hid hBk4
                                            have HNO := Lib.hid hno
                                            clear hAw hblk hSr4 hBk4 hno
                                            go_wp2_with fail
                                            refine CT.mono ?_
                                            rintro e w8 ⟨rfl, hR8, hK8⟩
                                            clear CT p0
                                            have CS := rd_step hR8 HFT.out
                                            have HB8 := Lib.hid (HBL.out.same (hK8 A7 (.inl rfl)))
                                            have HS8 := Lib.hid (HS4.out.same (hK8 s (.inr (.inr (.inl rfl)))) (hK8 b (.inr (.inr (.inr rfl)))))
                                            have HG8 := Lib.hid (HB4.out.same (hK8 gv (.inr (.inl rfl))))
                                            clear hR8 hK8 HBL HS4 HB4
                                            go_wp2_with fail
                                            refine CS.mono ?_
                                            rintro e w9 ⟨u9, rfl, hQ, hK9⟩
                                            clear CS
                                            have hbl9 := HB8.out.same (hK9 A7 (.inl rfl))
                                            have hS9 := HS8.out.same (hK9 s (.inr (.inr (.inl rfl)))) (hK9 b (.inr (.inr (.inr rfl))))
                                            have hG9 := HG8.out.same (hK9 gv (.inr (.inl rfl)))
                                            have q0 := hbl9.c 0 (by omega)
                                            have q1 := hbl9.c 1 (by omega)
                                            have q2 := hbl9.c 2 (by omega)
                                            have q3 := hbl9.c 3 (by omega)
                                            have q4 := hbl9.c 4 (by omega)
                                            have z0 := hbl9.z 0
                                            have z1 := hbl9.z 1
                                            have z2 := hbl9.z 2
                                            have z3 := hbl9.z 3
                                            have z4 := hbl9.z 4
                                            have HL2 : Hid (MoL (fun k => k = A7 ∨ (k = gv ∨ k = s ∨ k = b)) w (putU w9 A7 u9) d x A7 s b gv l n0 key k t v back told (wl back n0 i key) (n + 1)) := by
                                              have hx : Ex (fun k => k = A7 ∨ (k = gv ∨ k = s ∨ k = b)) w9 (putU w9 A7 u9) := putUM_ex w9 A7 u9 (.inl rfl)
                                              have hKB : ∀ k, (k = A7 ∨ (k = gv ∨ k = s ∨ k = b)) → w.heap.size ≤ k := by
                                                rintro k (h | h | h | h)
                                                · rw [h]; exact hA7
                                                · rw [h]; exact HGE.out.1
                                                · rw [h]; exact HGE.out.2.1
                                                · rw [h]; exact HGE.out.2.2
                                              refine ⟨u9, tuBM_put hbl9 u9, hS9.same (putU_other w9 A7 u9 s HNE.out.2.1) (putU_other w9 A7 u9 b HNE.out.2.2), hG9.same (putU_other w9 A7 u9 gv HNE.out.1), ?_⟩
                                              have c := HC5.out
                                              rcases mv_stepK c hKN HNO.out hQ with ⟨q', hq', hql', hl, hno', hu, g, gi, r, h, ev, s', j, f, hA⟩ | ⟨h1, h2, h3⟩
                                              · exact .inl ⟨q', by have := cnt_next hqv hq'; omega, hql', hl, hno', hu, g, gi, r, h, ev, s', j, f, hA.touch hx hKB⟩
                                              · exact .inr ⟨h1, h2, h3.touch hx hKB⟩
                                            have e22 : IntKind.i64.wrap ((n : Int) + 1) = ((n + 1 : Nat) : Int) := by rw [i64_small (by omega) (by omega)]; omega
                                            clear hQ hK9 hbl9 hS9 hG9 HB8 HS8 HG8
                                            unfold putU put5 at HL2
                                            unfold tuV
                                            go_wp2_with fail
                                            go_roundw
                                            case rel => exact ⟨n + 1, by omega, rfl, HL2.out⟩
                                            case measure => simp [intOf]; omega
                                          · by_cases hnn : n ≤ n0
                                            ·
                                              have tn :  (n : Int) ≤ (n0 : Int) := by omega
                                              have p0 : wr.cell? ⟨A7, 0, none⟩ = some (.int .i64 2) := by rw [← hk8]; exact hblk.c 0 (by omega)
                                              have p2 : wr.cell? ⟨A7, 2, none⟩ = some (.bool true) := by rw [← hf8]; exact hblk.c 2 (by omega)
                                              obtain ⟨t8, g8, gi8, r8, h8, ev8, v8, c8⟩ := hMk
                                              have CP := put9_any c8.pd (c8.fit (by omega) (by omega)) (c8.room (by omega)) (by have := c8.len; omega) (l[key]?.getD 0) (key : Int) 7
                                              have hc8 := (HC.out wr key c8.pd.bl hKN).2
                                              have HC8 := Lib.hid c8
                                              have HS8 := Lib.hid hSr4
                                              have HB8 := Lib.hid hBk4
                                              clear c8 hSr4 hBk4 hblk hk8 hf8
                                              go_wp2_with fail
                                              refine CP.mono ?_
                                              rintro e w9 ⟨rfl, hPR, hK9⟩
                                              clear CP
                                              have HN9 : Hid (MoK w w9 d s b gv l n0 key back told (wl back n0 i key) (k + 1)) := ⟨(HC8.out.put hPR).withK (fun k h => .inr h), HS8.out.same (hK9 s (.inr (.inr (.inl rfl)))) (hK9 b (.inr (.inr (.inr rfl)))), HB8.out.same (hK9 gv (.inr (.inl rfl)))⟩
                                              have e19 : IntKind.i64.wrap ((k : Int) + 1) = ((k + 1 : Nat) : Int) := by rw [i64_small (by omega) (by omega)]; omega
                                              clear hPR hK9
                                              go_wp2_with fail
                                              go_roundw
                                              case rel => exact ⟨k + 1, by omega, rfl, HN9.out⟩
                                              case measure => simp [intOf]; omega
                                            ·
                                              have tn : ¬ (n : Int) ≤ (n0 : Int) := by omega
                                              have p0 : wr.cell? ⟨A7, 0, none⟩ = some (.int .i64 2) := by rw [← hk8]; exact hblk.c 0 (by omega)
                                              have p2 : wr.cell? ⟨A7, 2, none⟩ = some (.bool true) := by rw [← hf8]; exact hblk.c 2 (by omega)
                                              obtain ⟨t8, g8, gi8, r8, h8, ev8, v8, c8⟩ := hMk
                                              have CP := put9_any c8.pd (c8.fit (by omega) (by omega)) (c8.room (by omega)) (by have := c8.len; omega) (l[key]?.getD 0) (key : Int) 7
                                              have hc8 := (HC.out wr key c8.pd.bl hKN).2
                                              have HC8 := Lib.hid c8
                                              have HS8 := Lib.hid hSr4
                                              have HB8 := Lib.hid hBk4
                                              clear c8 hSr4 hBk4 hblk hk8 hf8
                                              go_wp2_with fail
                                              refine CP.mono ?_
                                              rintro e w9 ⟨rfl, hPR, hK9⟩
                                              clear CP
                                              have HN9 : Hid (MoK w w9 d s b gv l n0 key back told (wl back n0 i key) (k + 1)) := ⟨(HC8.out.put hPR).withK (fun k h => .inr h), HS8.out.same (hK9 s (.inr (.inr (.inl rfl)))) (hK9 b (.inr (.inr (.inr rfl)))), HB8.out.same (hK9 gv (.inr (.inl rfl)))⟩
                                              have e19 : IntKind.i64.wrap ((k : Int) + 1) = ((k + 1 : Nat) : Int) := by rw [i64_small (by omega) (by omega)]; omega
                                              clear hPR hK9
                                              go_wp2_with fail
                                              go_roundw
                                              case rel => exact ⟨k + 1, by omega, rfl, HN9.out⟩
                                              case measure => simp [intOf]; omega
                                    · have tk : ¬ (k : Int) < (T : Int) := by omega
                                      have HMT : Hid (MoT w wr d s b gv l n0 i key T back i told) := by
                                        have e : k = T := by omega
                                        rw [e] at hMv
                                        exact ⟨by rw [if_neg (Nat.lt_irrefl _)]; exact hMv, hSr, hBk⟩
                                      clear hMv hSr hBk
                                      go_wp2_with fail
                                      go_meet
                                      case rel => exact HMT.out
                              · have tA : ¬ ((i : Int) = (A : Int)) := by omega
                                have HT := Lib.hid (HS.out.same hiA)
                                clear hiA
                                go_wp2_with fail
                                go_meet
                                case rel => exact HT.out
                          case rest =>
                            as_aux_lemma =>
                              obtain ⟨t, g, gi, r, h, ev, v, n, hP, hbo, hlv, hnx, hky, hfin⟩ := mo_next HS.out hcut hAN hKN hn2 (by omega) (by omega) (by rw [HMM.out]; exact hil)
                              have CX := ln_yes hP hbo (by rw [hlv]; exact hcut.sr) (.inr (.inl rfl)) HS.out.ge.2.1 HS.out.t1 HS.out.t2 hnx
                              rw [hlv] at CX
                              have hneS := HS.out.ne
                              have HFN := Lib.hid hfin
                              have HT := Lib.hid hcut
                              clear hfin hcut hnx hlv hbo hP
                              generalize nth t.es n = E at *
                              obtain ⟨y0, y1, y2, y3, y4⟩ := E
                              simp only at CX HFN hky
                              unfold eV at CX
                              simp only at CX
                              obtain ⟨yk, hyk⟩ : ∃ yk, (wl back n0 A key)[i]?.getD 0 = yk := ⟨_, rfl⟩
                              rw [hyk] at hky
                              subst hky
                              go_wp2_with fail
                              refine CX.mono ?_
                              rintro e w5 ⟨rfl, hS5, hP5, hX5⟩
                              clear CX
                              obtain ⟨w6, hw6⟩ : ∃ y, w5.alloc (.cells #[.bool y0, .int .i64 y1, .int .i64 y2, .int .i64 y3, .int .i64 y4] 53) = y := ⟨_, rfl⟩
                              have hB6 : Below w5.heap.size w5 w6 := by rw [← hw6]; exact (Below.refl _ w5).alloc (Nat.le_refl _) _
                              have hX6 : Blk w6 w5.heap.size 5 (fun j => #[Value.bool y0, .int .i64 y1, .int .i64 y2, .int .i64 y3, .int .i64 y4].getD j .nilFunc) := by rw [← hw6]; exact Blk.new w5 _ _
                              have hbk := HT.out.bk
                              have hbk5 := hbk.same (hX5.block gv (hbk.lt (by rw [HMM.out]; exact hlp)) (fun e => hneS.1 e))
                              have hbk6 := hbk5.of hB6 (by rw [HMM.out]; exact hlp)
                              have pv : w6.cell? ⟨gv, i, none⟩ = some (.int .i64 y2) := by rw [← hyk]; exact hbk6.c i (by rw [HMM.out]; exact hil)
                              have p2 : w6.cell? ⟨w5.heap.size, 2, none⟩ = some (.int .i64 y2) := hX6.c 2 (by omega)
                              have dv : w6.drew.cell? ⟨gv, i, none⟩ = some (.int .i64 y2) := pv
                              have d2 : w6.drew.cell? ⟨w5.heap.size, 2, none⟩ = some (.int .i64 y2) := p2
                              have HFI : Hid (∀ V, Below w6.heap.size w6 V → MoS w V d s b gv l n0 A key T back (i + 1) y4) := fun V hV => HFN.out V ((hP5.below hB6).below hV) ((hS5.below hB6).below hV) (hbk6.of hV (by rw [HMM.out]; exact hlp))
                              have e18 : IntKind.i64.wrap ((i : Int) + 1) = ((i + 1 : Nat) : Int) := by rw [i64_small (by omega) (by omega)]; omega
                              have HW6 := Lib.hid hw6
                              clear hw6 hX6 hbk hbk5 hbk6 hP5 hS5 hX5 HFN HT hyk hB6
                              go_upto_region 48 with fail
                              rw [HW6.out]
                              go_region_held3 (fun V => V.cell? ⟨w5.heap.size, 2, none⟩ = some (.int .i64 y2) ∧ V.cell? ⟨gv, i, none⟩ = some (.int .i64 y2))
                                (first | with_reducible exact ⟨d2, dv⟩ | with_reducible exact ⟨p2, pv⟩ | fail) (fail)
                              go_wp2_with fail
                              go_roundw
                              case rel => exact ⟨i + 1, y4, by omega, rfl, HFI.out _ ((Below.refl _ w6).drew)⟩
                              case measure => simp [intOf]; omega
                        · have hie : i = M := by omega
                          have ti : ¬ (i : Int) < (M : Int) := by omega
                          have hbl : Below w.heap.size w wr := by
                            obtain ⟨_, _, _, _, _, _, _, c⟩ := hS.mv
                            exact c.pd.bl
                          by_cases hMA : M ≤ A
                          · have tA : (M : Int) ≤ (A : Int) := by omega
                            have CW := awake9_any wr
                            clear hS hie
                            go_wp2_with fail
                            refine CW.mono ?_
                            rintro e w9 ⟨rfl, hB9⟩
                            clear CW
                            go_wp2
                            go_ret
                            exact ⟨rfl, hbl.trans (hB9.mono hbl.size)⟩
                          · have tA : ¬ (M : Int) ≤ (A : Int) := by omega
                            obtain ⟨t, g, gi, r, h, ev, v, hP, hbo, hlv, hnx⟩ := mo_end hS hKN (by omega) (by rw [HMM.out]; exact hie)
                            have CX := ln_no hP hbo (by rw [hlv]; exact hS.sr) (.inr (.inl rfl)) hS.ge.2.1 hS.t1 hS.t2 hnx
                            clear hS hP hnx hlv hbo hie
                            unfold eV at CX
                            go_wp2_with fail
                            refine CX.mono ?_
                            rintro e w5 ⟨rfl, hS5, hP5, _⟩
                            clear CX
                            obtain ⟨w6, hw6⟩ : ∃ y, w5.alloc (.cells #[.bool En.zero.live, .int .i64 En.zero.hash, .int .i64 En.zero.key, .int .i64 En.zero.value, .int .i64 En.zero.birth] 53) = y := ⟨_, rfl⟩
                            have hB6 : Below w5.heap.size w5 w6 := by rw [← hw6]; exact (Below.refl _ w5).alloc (Nat.le_refl _) _
                            have CW := awake9_any w6
                            have HBL : Hid (Below w.heap.size w w6) := (hP5.below hB6).bl
                            have HW6 := Lib.hid hw6
                            clear hw6 hB6 hS5 hP5
                            unfold En.zero at HW6 ⊢
                            go_upto_region 53 with fail
                            rw [HW6.out]
                            go_wp2_with fail
                            refine CW.mono ?_
                            rintro e w9 ⟨rfl, hB9⟩
                            clear CW
                            go_wp2
                            go_ret
                            exact ⟨rfl, HBL.out.trans (hB9.mono HBL.out.size)⟩
end Go.Proofs.YtbdpecpmdglalaaGreat
