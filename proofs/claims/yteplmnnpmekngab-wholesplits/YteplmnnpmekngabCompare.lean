/-
  What Compare does: the order of two Ints' values.
-/
import Derived.Deep.RegionHeld3
import Derived.Deep.Cut
import Derived.Test.YteplmnnpmekngabCmp
namespace Go.Proofs.Yteplmnnpmekngab
open Go.RowKit

/-- Two boxes of two cells each, laid at w's end, hold what they held; what w had stands. -/
abbrev S2 (w : World) (a0 a1 b0 b1 : Value) (W : World) : Prop :=
  (W.cell? ⟨w.heap.size, 0, none⟩ = some a0 ∧ W.cell? ⟨w.heap.size, 1, none⟩ = some a1 ∧ W.cell? ⟨w.heap.size + 1, 0, none⟩ = some b0 ∧ W.cell? ⟨w.heap.size + 1, 1, none⟩ = some b1) ∧ w.heap.size + 2 ≤ W.heap.size ∧ Below w.heap.size w W
theorem S2.init (w : World) (a0 a1 b0 b1 : Value) (s t : TypeId) : S2 w a0 a1 b0 b1 ((w.alloc (.cells #[a0, a1] s)).alloc (.cells #[b0, b1] t)).drew := by
  refine ⟨⟨?_, ?_, ?_, ?_⟩, ?_, ?_⟩
  · show ((w.alloc (.cells #[a0, a1] s)).alloc (.cells #[b0, b1] t)).cell? _ = _
    rw [World.cell?_alloc_past _ _ _ (by simp), World.cell?_alloc_at _ _ _ _ rfl]; rfl
  · show ((w.alloc (.cells #[a0, a1] s)).alloc (.cells #[b0, b1] t)).cell? _ = _
    rw [World.cell?_alloc_past _ _ _ (by simp), World.cell?_alloc_at _ _ _ _ rfl]; rfl
  · show ((w.alloc (.cells #[a0, a1] s)).alloc (.cells #[b0, b1] t)).cell? _ = _
    rw [World.cell?_alloc_at _ _ _ _ (by simp)]; rfl
  · show ((w.alloc (.cells #[a0, a1] s)).alloc (.cells #[b0, b1] t)).cell? _ = _
    rw [World.cell?_alloc_at _ _ _ _ (by simp)]; rfl
  · show _ ≤ ((w.alloc (.cells #[a0, a1] s)).alloc (.cells #[b0, b1] t)).heap.size
    simp
  · exact (((Below.refl w.heap.size w).alloc (Nat.le_refl _) _).alloc (by simp) _).drew
theorem S2.keep {w W W' : World} {a0 a1 b0 b1 : Value} (h : S2 w a0 a1 b0 b1 W) (hb : Below W.heap.size W W') : S2 w a0 a1 b0 b1 W' := by
  obtain ⟨⟨h1, h2, h3, h4⟩, hs, hB⟩ := h
  have hs' := hb.size
  exact ⟨⟨(hb.cell (p := ⟨w.heap.size, 0, none⟩) (by simp; omega)).trans h1, (hb.cell (p := ⟨w.heap.size, 1, none⟩) (by simp; omega)).trans h2,
    (hb.cell (p := ⟨w.heap.size + 1, 0, none⟩) (by simp; omega)).trans h3, (hb.cell (p := ⟨w.heap.size + 1, 1, none⟩) (by simp; omega)).trans h4⟩, by omega, hB.trans (hb.mono (by omega))⟩
theorem S2.below {w W : World} {a0 a1 b0 b1 : Value} (h : S2 w a0 a1 b0 b1 W) : Below w.heap.size w W := h.2.2
theorem below_drew {W : World} : Below W.heap.size W W.drew := (Below.refl _ _).drew

/-- The value of an Int. -/
def zv (neg : Bool) (n : Nat) : Int := if neg then -(n : Int) else (n : Int)

theorem tl_zero {xs : List Nat} : tl xs xs.length = 0 ↔ val xs = 0 := by
  rw [← trimL_length, ← val_trimL xs]
  exact (Tr_zero (Tr_trimL xs)).symm
theorem sgn_tl (neg : Bool) (xs : List Nat) : sgn neg (tl xs xs.length) = sgn neg (val xs) := by
  simp only [sgn, tl_zero]
theorem cmp_parts (na nb : Bool) (x y : Nat) (h : sgn na x ≠ sgn nb y) : cmpI (sgn na x) (sgn nb y) = cmpI (zv na x) (zv nb y) := by
  unfold sgn zv cmpI at *
  cases na <;> cases nb <;> simp at h ⊢ <;> (repeat' split at h) <;> (repeat' split) <;> omega
theorem cmp_one (na nb : Bool) (x y : Nat) (h : sgn na x = sgn nb y) : sgn na x * cmpN x y = cmpI (zv na x) (zv nb y) := by
  unfold sgn zv cmpI cmpN at *
  cases na <;> cases nb <;> simp at h ⊢ <;> (repeat' split at h) <;> (repeat' split) <;> omega
theorem cmpN_bd (x y : Nat) : -1 ≤ cmpN x y ∧ cmpN x y ≤ 1 := by
  unfold cmpN
  repeat' split
  all_goals omega
theorem sgn_bd (n : Bool) (x : Nat) : sgn n x = -1 ∨ sgn n x = 0 ∨ sgn n x = 1 := by
  unfold sgn
  repeat' split
  all_goals omega

set_option maxRecDepth 100000 in
set_option maxHeartbeats 2000000 in
theorem compare_any (na nb : Bool) (ax ay : Option Addr) (nx cx ny cy : Nat) (xs ys : List Nat) (w : World) (hx : Sl .u32 w (.slice ax nx cx) xs) (hy : Sl .u32 w (.slice ay ny cy) ys) (ox : okw xs) (oy : okw ys)
    (bx : xs.length ≤ 1000000) (by_ : ys.length ≤ 1000000) :
    Calls Try.prog 7 #[.agg #[.bool na, .slice ax nx cx], .agg #[.bool nb, .slice ay ny cy]] w fun e w' => e = .returned (.int .i64 (cmpI (zv na (val xs)) (zv nb (val ys)))) ∧ Below w.heap.size w w' := by
  go_enter Try.func7, Try.ntmps7
  go_wp2_with fail
  go_region_held3 (fun W => (W.cell? ⟨w.heap.size, 0, none⟩ = some (.bool na) ∧ W.cell? ⟨w.heap.size, 1, none⟩ = some (.slice ax nx cx) ∧ W.cell? ⟨w.heap.size + 1, 0, none⟩ = some (.bool nb) ∧ W.cell? ⟨w.heap.size + 1, 1, none⟩ = some (.slice ay ny cy)) ∧ w.heap.size + 2 ≤ W.heap.size ∧ Below w.heap.size w W)
    (first | exact S2.init _ _ _ _ _ _ _ | exact S2.keep (by assumption) (by assumption))
    (first | (go_at_call_of 17 (Value.slice ax nx cx); refine (sign_any na ax nx cx xs _ (hx.below (S2.below (by assumption))) bx).mono ?_; rintro e w' ⟨rfl, hb⟩)
           | (go_at_call_of 17 (Value.slice ay ny cy); refine (sign_any nb ay ny cy ys _ (hy.below (S2.below (by assumption))) by_).mono ?_; rintro e w' ⟨rfl, hb⟩))
  have hS : S2 w (.bool na) (.slice ax nx cx) (.bool nb) (.slice ay ny cy) w' := by assumption
  clear hb
  rw [sgn_tl, sgn_tl]
  obtain ⟨s, hs⟩ : ∃ s, sgn na (val xs) = s := ⟨_, rfl⟩
  obtain ⟨t, ht⟩ : ∃ t, sgn nb (val ys) = t := ⟨_, rfl⟩
  have hsb := sgn_bd na (val xs)
  have HS : Hid (sgn na (val xs) = s) := hs
  have HT : Hid (sgn nb (val ys) = t) := ht
  rw [hs, ht]
  rw [hs] at hsb
  clear hs ht
  by_cases hst : s = t
  · have HE : Hid (s = t) := hst
    have h0 : (s != t) = false := by simp [hst]
    clear hst
    go_wp2_with fail
    have hc := cmpN_bd (val xs) (val ys)
    have hw : IntKind.i64.wrap (s * cmpN (val xs) (val ys)) = s * cmpN (val xs) (val ys) := by
      rw [IntKind.wrap_i64]
      rcases hsb with h | h | h <;> rw [h] <;> omega
    clear hsb
    go_region_held3 (fun W => (W.cell? ⟨w.heap.size, 0, none⟩ = some (.bool na) ∧ W.cell? ⟨w.heap.size, 1, none⟩ = some (.slice ax nx cx) ∧ W.cell? ⟨w.heap.size + 1, 0, none⟩ = some (.bool nb) ∧ W.cell? ⟨w.heap.size + 1, 1, none⟩ = some (.slice ay ny cy)) ∧ w.heap.size + 2 ≤ W.heap.size ∧ Below w.heap.size w W)
      (first | exact S2.keep hS below_drew | exact S2.keep (by assumption) (by assumption) | exact S2.keep (by assumption) (Below.refl _ _))
      (first | (go_at_call_of 20 (Value.slice ax nx cx); refine (trim_any ax nx cx xs _ (hx.below (S2.below (by assumption))) bx).mono ?_; rintro e w' ⟨rfl, rfl⟩)
             | (go_at_call_of 20 (Value.slice ay ny cy); refine (trim_any ay ny cy ys _ (hy.below (S2.below (by assumption))) by_).mono ?_; rintro e w' ⟨rfl, rfl⟩)
             | (go_at_call 19; refine (cmpw_trim ax ay nx cx ny cy xs ys _ (hx.below (S2.below (by assumption))) (hy.below (S2.below (by assumption))) ox oy bx).mono ?_; rintro e w' ⟨rfl, hb⟩))
    go_wp2
    go_ret
    refine ⟨?_, S2.below (by assumption)⟩
    rw [← cmp_one _ _ _ _ (HS.out.trans (HE.out.trans HT.out.symm)), HS.out]
    rfl
  · have h0 : (s != t) = true := by rw [bne_iff_ne]; exact hst
    have HE : Hid (cmpI s t = cmpI (zv na (val xs)) (zv nb (val ys))) := by
      rw [← HS.out, ← HT.out] at hst ⊢
      exact cmp_parts _ _ _ _ hst
    clear hst
    go_wp2_with (go_at_call 18; refine (cmpInt_any _ _ _).mono ?_; rintro e w' ⟨rfl, rfl⟩)
    go_ret
    refine ⟨?_, hS.below⟩
    rw [← HE.out]
    rfl
end Go.Proofs.Yteplmnnpmekngab
