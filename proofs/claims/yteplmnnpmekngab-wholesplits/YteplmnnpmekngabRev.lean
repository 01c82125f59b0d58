/-
  What slices.Reverse does to bytes.
-/
import Derived.Test.YteplmnnpmekngabPieces
namespace Go.Proofs.Yteplmnnpmekngab
open Go.RowKit

/-- us, its first k and last k places exchanged. -/
def swp (us : List Nat) (k : Nat) : List Nat := (List.range us.length).map fun t => if t < k ∨ us.length - k ≤ t then us[us.length - 1 - t]?.getD 0 else us[t]?.getD 0
theorem swp_length (us : List Nat) (k : Nat) : (swp us k).length = us.length := by simp [swp]
theorem swp_get (us : List Nat) (k t : Nat) (ht : t < us.length) : (swp us k)[t]?.getD 0 = if t < k ∨ us.length - k ≤ t then us[us.length - 1 - t]?.getD 0 else us[t]?.getD 0 := by
  simp [swp, ht]
theorem swp_zero (us : List Nat) : swp us 0 = us := by
  refine ext_get (swp_length _ _) fun t ht => ?_
  rw [swp_length] at ht
  rw [swp_get _ _ _ ht, if_neg (by omega)]
theorem swp_end (us : List Nat) (k : Nat) (h1 : us.length ≤ 2 * k + 1) : swp us k = us.reverse := by
  refine ext_get (by simp [swp_length]) fun t ht => ?_
  rw [swp_length] at ht
  rw [swp_get _ _ _ ht, List.getElem?_reverse ht]
  split
  · rfl
  · rw [show us.length - 1 - t = t by omega]
theorem swp_step (us : List Nat) (k j : Nat) (hj : j = us.length - 1 - k) (hk : k < j) : ((swp us k).set k (us[j]?.getD 0)).set j (us[k]?.getD 0) = swp us (k + 1) := by
  refine ext_get (by simp [swp_length]) fun t ht => ?_
  simp only [List.length_set, swp_length] at ht
  rw [swp_get _ _ _ ht]
  by_cases h1 : t = j
  · subst h1
    rw [List.getElem?_set_self (by simp [swp_length]; omega), if_pos (by omega), show us.length - 1 - t = k by omega]; rfl
  · rw [List.getElem?_set_ne (by omega)]
    by_cases h2 : t = k
    · subst h2
      rw [List.getElem?_set_self (by simp [swp_length]; omega), if_pos (by omega), hj]; rfl
    · rw [List.getElem?_set_ne (by omega), swp_get _ _ _ ht]
      by_cases h3 : t < k ∨ us.length - k ≤ t
      · rw [if_pos h3, if_pos (by omega)]
      · rw [if_neg h3, if_neg (by omega)]
theorem OnlyRow.drewR {w w' : World} {g off n : Nat} (h : OnlyRow w w' g off n) : OnlyRow w w'.drew g off n := ⟨h.os, h.tape, h.output, h.size, h.block, h.cell, h.frozen⟩

set_option maxRecDepth 100000 in
set_option maxHeartbeats 2000000 in
theorem reverse_some (g off cap : Nat) (us : List Nat) (w : World) (su : Seg .u8 w g off us) (fu : Free w g off us.length) (hn : 0 < us.length) (hb : us.length ≤ 10000000) :
    Calls Try.prog 33 #[.slice (some ⟨g, off, none⟩) us.length cap] w fun e w' => e = .returned (.tuple #[]) ∧ Seg .u8 w' g off us.reverse ∧ OnlyRow w w' g off us.length := by
  go_enter Try.func33, Try.ntmps33
  go_wp2
  go_loopw [2, 3] (fun i j wr => ∃ k l : Nat, i = .int .i64 (k : Int) ∧ j = .int .i64 (l : Int) ∧ l = us.length - 1 - k ∧ k ≤ l + 1 ∧ k < us.length ∧ Seg .u8 wr g off (swp us k) ∧ OnlyRow w wr g off us.length)
    (fun i _ _ => us.length - (intOf i).toNat)
  case atStart => exact ⟨0, us.length - 1, rfl, by simp; omega, rfl, by omega, hn, by rw [swp_zero]; exact su, OnlyRow.refl _ _ _ _⟩
  case round =>
    obtain ⟨k, l, rfl, rfl, hl, hkl, hkn, hs, hor⟩ := hrel
    have HL : Hid (l = us.length - 1 - k) := hl
    clear hl
    by_cases hlt : k < l
    · have hll : l < us.length := by have := HL.out; omega
      have c1 : wr.cell? ⟨g, off + k, none⟩ = some (.int .u8 ((us[k]?.getD 0 : Nat) : Int)) := by
        rw [hs k (by rw [swp_length]; omega), swp_get _ _ _ (by omega), if_neg (by have := HL.out; omega)]
      have c2 : wr.cell? ⟨g, off + l, none⟩ = some (.int .u8 ((us[l]?.getD 0 : Nat) : Int)) := by
        rw [hs l (by rw [swp_length]; omega), swp_get _ _ _ (by omega), if_neg (by have := HL.out; omega)]
      have f1 : wr.frozen? ⟨g, off + k, none⟩ = false := (hor.frozen _).trans (fu k (by omega))
      have f2 : wr.frozen? ⟨g, off + l, none⟩ = false := (hor.frozen _).trans (fu l (by omega))
      obtain ⟨x, hx⟩ : ∃ x, us[k]?.getD 0 = x := ⟨_, rfl⟩
      obtain ⟨y, hy⟩ : ∃ y, us[l]?.getD 0 = y := ⟨_, rfl⟩
      rw [hx] at c1
      rw [hy] at c2
      have HX : Hid (us[k]?.getD 0 = x) := hx
      have HY : Hid (us[l]?.getD 0 = y) := hy
      clear hx hy
      go_wp2
      go_region
      have hs2 : Seg .u8 ((wr.setCell ⟨g, off + k, none⟩ (.int .u8 (y : Int))).setCell ⟨g, off + l, none⟩ (.int .u8 (x : Int))).drew g off (swp us (k + 1)) := by
        rw [← swp_step us k l HL.out hlt, HX.out, HY.out]
        exact (hs.set k (by rw [swp_length]; omega) y).set l (by simp [swp_length]; omega) x
      have ho2 : OnlyRow w ((wr.setCell ⟨g, off + k, none⟩ (.int .u8 (y : Int))).setCell ⟨g, off + l, none⟩ (.int .u8 (x : Int))).drew g off us.length := ((hor.set k (by omega) _).set l (by omega) _).drewR
      generalize ((wr.setCell ⟨g, off + k, none⟩ (.int .u8 (y : Int))).setCell ⟨g, off + l, none⟩ (.int .u8 (x : Int))).drew = W at *
      clear c1 c2 f1 f2 hs hor
      go_wp2
      go_roundw
      case rel => exact ⟨k + 1, l - 1, by go_num, by simp; omega, by have := HL.out; omega, by omega, by omega, hs2, ho2⟩
      case measure => simp [intOf]; omega
    · go_wp2
      go_end0
      refine ⟨rfl, ?_, hor⟩
      rw [swp_end us k (by have := HL.out; omega)] at hs
      exact hs
end Go.Proofs.Yteplmnnpmekngab
