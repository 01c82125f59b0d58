/-
  TrailCovers, walked.
-/
import Derived.Deep.RegionHeld3
import Derived.Test.YtddgkdjpklegnaaTrCells
namespace Go.Proofs.Ytddgkdjpklegnaa
open Go.RowKit Go.WideShapes Go.Proofs.Ytddgkdjpklegnaa.Tr

theorem Try.infoBool : (Try.prog.info? 4).map (fun i => (i.zero, i.size, i.bytes)) = some (some (.bool false), 1, 1) := by kernel_rfl
/-- Bools in a row of their own, at block g. -/
structure Bls (W : World) (g n : Nat) (f : Nat → Bool) : Prop where
  c : ∀ x, x < n → W.cell? ⟨g, x, none⟩ = some (.bool (f x))
  z : ∀ x, W.frozen? ⟨g, x, none⟩ = false
theorem bls_made {w : World} {B t n g : Nat} (h : w.ownsRow B t 1 (.slice (some ⟨g, 0, none⟩) n n) n (madeCells (Value.bool false).cells (n * 1)).toList) : Bls w g n (fun _ => false) := by
  refine ⟨fun x hx => ?_, fun x => h.frozenAt x⟩
  rw [h.cellAt x (by omega)]
  simp [madeCells, Value.cells, hx, Nat.mod_one]
theorem Bls.put {W : World} {g n : Nat} {f : Nat → Bool} (h : Bls W g n f) (y : Nat) (hy : y < n) : Bls (W.setCell ⟨g, y, none⟩ (.bool true)) g n (fun x => if x = y then true else f x) := by
  refine ⟨fun x hx => ?_, fun x => by rw [World.frozen?_setCell]; exact h.z x⟩
  by_cases e : x = y
  · subst e
    rw [if_pos rfl]
    exact World.cell?_setCell_same' _ _ _ (by rw [h.c x hx]; rfl)
  · rw [if_neg e, World.cell?_setCell_other _ _ _ _ (by intro he; injection he with h1 h2; exact e h2.symm)]
    exact h.c x hx

set_option maxRecDepth 100000 in
set_option maxHeartbeats 4000000 in
theorem coversLaw_near (h : Int) {L S : Nat} (hS : Sz L S) (hL : L ≤ 11) (w : World) :
    Calls Try.prog 5 #[.int .i64 h, .int .i64 (L : Int)] w fun e w' => e = .returned (.bool true) ∧ Below w.heap.size w w' := by
  have hS2 : S ≤ 2048 := by rw [← hS.eq]; exact Nat.le_trans (Nat.pow_le_pow_right (by decide) hL) (by decide)
  have hp := hS.pos
  have hi64 := hS.i64
  obtain ⟨i0, hi, hz0, hz1, hz2⟩ := info_parts Try.infoBool
  have C1 := Lib.hid (fun w => cells_any hS h (S + 13) (S + 13) (by omega) (by omega) (by omega) w)
  rw [show ((S + 13 : Nat) : Int) = (S : Int) + 13 by omega] at C1
  have hX := row_len (uw h) L (S + 13)
  have HXG : Hid (∀ j, j < S + 13 → (row (uw h) L (S + 13))[j]?.getD 0 = ((trl (uw h) L j : Nat) : Int)) := fun j hj => row_get _ _ _ _ hj
  have HAP : Hid (∀ i j, shn (uw h) ≤ i → i < j → j < i + S → trl (uw h) L i ≠ trl (uw h) L j) := fun i j h1 h2 h3 => trl_apart (uw h) L (shn (uw h)) (shn_gone _) i j h1 h2 (by rw [hS.eq]; exact h3)
  have HLT : Hid (∀ i, trl (uw h) L i < S) := fun i => by rw [← hS.eq]; exact trl_lt _ _ _
  have CF := Lib.hid (fun w => first_any h (L : Int) w)
  rw [show firstZ h (L : Int) = ((trl (uw h) L 0 : Nat) : Int) by rw [firstZ_yes h hS, trl, hS.eq]] at CF
  have CS := Lib.hid (fun w => shifts_any h w)
  have hs := shn_le _ (uw_lt h)
  generalize row (uw h) L (S + 13) = X at C1 hX HXG
  generalize shn (uw h) = s at CS HAP hs
  generalize trl (uw h) L = tr at HXG HAP HLT CF
  have t3 : IntKind.i64.wrap ((S : Int) + 13) = (S : Int) + 13 := i64_small (by omega) (by omega)
  have i1 : ¬ (L : Int) < 0 := by omega
  have i2 : ¬ 11 < (L : Int) := by omega
  clear hS
  go_enter Try.func5, Try.ntmps5
  go_wp2_with fail
  refine (C1.out _).mono ?_
  rintro e w1 ⟨a, cap, rfl, hSl, hb1⟩
  obtain ⟨hxl, hcap, b, off, hpl, hsg⟩ := hSl
  obtain ⟨rfl, hlt⟩ := hpl (by omega)
  have hc0 : w1.cell? ⟨b, off, none⟩ = some (.int .i64 ((tr 0 : Nat) : Int)) := by have := hsg 0 (by omega); rwa [HXG.out 0 (by omega), Nat.add_zero] at this
  have e0 : (((tr 0 : Nat) : Int) != ((tr 0 : Nat) : Int)) = false := by simp
  have e1 : (((S + 13 : Nat) : Int) != (S : Int) + 13) = false := by simp
  have hsg' : Hid (∀ j, j < S + 13 → w1.cell? ⟨b, off + j, none⟩ = some (.int .i64 ((tr j : Nat) : Int))) := fun j hj => by have := hsg j (by omega); rwa [HXG.out j hj] at this
  rw [hX] at hcap
  clear hsg hpl C1 hxl hX HXG
  go_wp2_with fail
  have hpos : (0 : Int) < (S : Int) + 13 := by omega
  have hc0d : w1.drew.cell? ⟨b, off, none⟩ = some (.int .i64 ((tr 0 : Nat) : Int)) := hc0
  go_region_held3 (fun W => W.cell? ⟨b, off, none⟩ = some (.int .i64 ((tr 0 : Nat) : Int)))
    (first | with_reducible exact hc0 | with_reducible exact hc0d | with_reducible exact hcF | fail)
    (first | (go_at_call 10; refine (CF.out _).mono ?_; rintro e w2 ⟨rfl, hbF⟩; have hcF := (hbF.cell (p := ⟨b, off, none⟩) hlt).trans hc0) | fail)
  have hlt0 : b < w1.drew.heap.size := hlt
  have hsg2 : Hid (∀ j, j < S + 13 → w2.cell? ⟨b, off + j, none⟩ = some (.int .i64 ((tr j : Nat) : Int))) := fun j hj => (hbF.cell (p := ⟨b, off + j, none⟩) hlt0).trans (hsg'.out j hj)
  have hb2 : Below w.heap.size w w2 := hb1.drew.trans (hbF.mono hb1.size)
  have hlt2 : b < w2.heap.size := Nat.lt_of_lt_of_le hlt0 hbF.size
  clear hsg' hb1 hc0 hlt hc0d hcF hbF hlt0
  generalize w2 = W at hsg2 hb2 hlt2 ⊢
  go_wp2_with fail
  refine (CS.out _).mono ?_
  rintro e w2 ⟨rfl, rfl⟩
  clear CS CF e0 e1
  have t4 : IntKind.i64.wrap ((s : Int) + (S : Int)) = (s : Int) + (S : Int) := i64_small (by omega) (by omega)
  go_wp2_with fail
  go_loopw [9] (fun fv wr => ∃ k : Nat, s ≤ k ∧ k ≤ 14 ∧ fv = .int .i64 (k : Int) ∧ Below w2.heap.size w2 wr) (fun fv _ => 14 - (intOf fv).toNat)
  case atStart => exact ⟨s, Nat.le_refl _, by omega, rfl, Below.refl _ _⟩
  case round =>
    rename World => wo
    obtain ⟨k, hsk, hk14, rfl, hBr⟩ := hrel
    have t5 : IntKind.i64.wrap ((k : Int) + (S : Int)) = (k : Int) + (S : Int) := i64_small (by omega) (by omega)
    by_cases hk : k ≤ 13
    · have t6 : (k : Int) + (S : Int) ≤ (S : Int) + 13 := by omega
      go_wp2_with (at_make; refine wpList_make_full _ rfl _ _ 35 rfl wo.heap.size 4 i0 (.bool false) 1 Try.underlying35 hi hz0 hz1 .i64 .i64 _ _ S rfl rfl (by omega) (by omega) (by rw [hz2]; omega) (by unfold maxLen; omega) (Nat.le_refl _) ?_; intro w3 hown3 hgrow3; have hb3 : Below wo.heap.size wo w3 := (Below.refl _ wo).grown hgrow3 (Nat.le_refl _) (fun k e => by cases e); have hr3 := bls_made hown3; clear hown3 hgrow3)
      go_loopw [11] (fun iv wq => ∃ (j : Nat) (f : Nat → Bool), k ≤ j ∧ j ≤ k + S ∧ iv = .int .i64 (j : Int) ∧ Bls wq wo.heap.size S f ∧ (∀ x, f x = true → ∃ t, k ≤ t ∧ t < j ∧ tr t = x) ∧ Below wo.heap.size wo wq) (fun iv _ => k + S - (intOf iv).toNat)
      case atStart => exact ⟨k, _, Nat.le_refl _, by omega, rfl, hr3, fun x h => by simp at h, hb3⟩
      case round =>
        clear hr3 hb3
        obtain ⟨j, f, hkj, hjS, rfl, hF, hseen, hBq⟩ := hrel
        by_cases hj : j < k + S
        · have t7 : (j : Int) < (k : Int) + (S : Int) := by omega
          have t8 : (j : Int) < (S : Int) + 13 := by omega
          have hcj : wr.cell? ⟨b, off + j, none⟩ = some (.int .i64 ((tr j : Nat) : Int)) := (hBq.cell (p := ⟨b, off + j, none⟩) (Nat.lt_of_lt_of_le hlt2 hBr.size)).trans ((hBr.cell (p := ⟨b, off + j, none⟩) hlt2).trans (hsg2.out j (by omega)))
          have hy := HLT.out j
          have hfy : f (tr j) = false := by
            cases hv : f (tr j) with
            | false => rfl
            | true =>
              obtain ⟨t, h1, h2, h3⟩ := hseen _ hv
              exact absurd h3 (HAP.out t j (by omega) h2 (by omega))
          have hcy := hF.c (tr j) hy
          have hzy := hF.z (tr j)
          rw [hfy] at hcy
          have HF2 : Hid (Bls (wr.setCell ⟨wo.heap.size, tr j, none⟩ (.bool true)) wo.heap.size S (fun x => if x = tr j then true else f x)) := hF.put (tr j) hy
          have HSE : Hid (∀ x, (if x = tr j then true else f x) = true → ∃ t, k ≤ t ∧ t < j + 1 ∧ tr t = x) := fun x hx => by
            by_cases e : x = tr j
            · exact ⟨j, hkj, by omega, e.symm⟩
            · rw [if_neg e] at hx
              obtain ⟨t, h1, h2, h3⟩ := hseen x hx
              exact ⟨t, h1, by omega, h3⟩
          have HBQ : Hid (Below wo.heap.size wo (wr.setCell ⟨wo.heap.size, tr j, none⟩ (.bool true))) := hBq.setCell (p := ⟨wo.heap.size, tr j, none⟩) (Nat.le_refl _) _
          clear hseen hfy hF
          generalize tr j = y at *
          have t9 : (y : Int) < (S : Int) := by omega
          go_wp2_with fail
          go_roundw
          case rel => exact ⟨j + 1, _, by omega, by omega, by go_num, HF2.out, HSE.out, HBQ.out⟩
          case measure => simp [intOf]; omega
        · have t7 : ¬ (j : Int) < (k : Int) + (S : Int) := by omega
          go_wp2_with fail
          go_roundw
          case rel => exact ⟨k + 1, by omega, by omega, by go_num, hBr.trans (hBq.mono hBr.size)⟩
          case measure => simp [intOf]; omega
    · have t6 : ¬ (k : Int) + (S : Int) ≤ (S : Int) + 13 := by omega
      go_wp2_with fail
      refine (awake_any _).mono ?_
      rintro e w4 ⟨rfl, hb4⟩
      have hb5 := (hb2.trans (hBr.mono hb2.size)).trans (hb4.mono (hb2.trans (hBr.mono hb2.size)).size)
      clear hb4
      go_wp2
      go_ret
      exact ⟨rfl, hb5⟩

set_option maxRecDepth 100000 in
theorem coversLaw_walk (h l : Int) (w : World) :
    Calls Try.prog 5 #[.int .i64 h, .int .i64 l] w fun e w' => e = .returned (.bool true) ∧ Below w.heap.size w w' := by
  by_cases hl : 0 ≤ l ∧ l ≤ 11
  · obtain ⟨L, rfl⟩ : ∃ L : Nat, l = (L : Int) := ⟨l.toNat, by omega⟩
    exact coversLaw_near h ⟨rfl, by omega⟩ (by omega) w
  · go_enter Try.func5, Try.ntmps5
    by_cases i3 : l < 0
    case' neg => have i4 : 11 < l := by omega
    all_goals
      clear hl
      go_wp2_with fail
      refine (awake_any _).mono ?_
      rintro e w4 ⟨rfl, hb4⟩
      go_wp2
      go_ret
      exact ⟨rfl, hb4⟩
end Go.Proofs.Ytddgkdjpklegnaa
