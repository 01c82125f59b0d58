/-
  What shiftUp does: words times a power of two below 2^32, with a word more.
-/
import Derived.Test.YteplmnnpmekngabSums
namespace Go.Proofs.Yteplmnnpmekngab
open Go.RowKit

theorem or_join32 (A L s : Nat) (hs : s < 32) (hA : A < 2 ^ s) (hL : L % 2 ^ s = 0) (hL1 : L < 4294967296) : bits BinOp.or IntKind.u32 (A : Int) (L : Int) = ((L + A : Nat) : Int) := by
  have h32 : 2 ^ s < 4294967296 := by
    have := (Nat.pow_lt_pow_iff_right (by omega : 1 < 2)).2 hs
    simpa using this
  have hc : bits BinOp.or IntKind.u32 (A : Int) (L : Int) = bits BinOp.or IntKind.u32 (L : Int) (A : Int) := by simp only [bits, BitVec.or_comm]
  rw [hc, bits_join .u32 32 (by decide) (fun n h0 h1 => by rw [IntKind.wrap_u32]; omega) s _ _ (by omega) (by exact_mod_cast hL) (by omega) (by omega) (by exact_mod_cast hA) (by omega)]
  push_cast; rfl
/-- One word more is shifted. -/
theorem up_step {Q xs : List Nat} {k s x z lo hi : Nat} (h : val Q = val (xs.take k) * 2 ^ s) (hx : xs[k]?.getD 0 = x) (hz : Q[k]?.getD 0 = z) (h1 : Q[k + 1]?.getD 0 = 0) (hk : k + 1 < Q.length) (hs : x * 2 ^ s = lo + 4294967296 * hi) :
    val ((Q.set k (lo + z)).set (k + 1) hi) = val (xs.take (k + 1)) * 2 ^ s := by
  have a1 := val_set Q k (lo + z) (by omega)
  have a2 := val_set (Q.set k (lo + z)) (k + 1) hi (by rw [List.length_set]; omega)
  rw [List.getElem?_set_ne (by omega), h1, Nat.mul_zero, Nat.add_zero] at a2
  rw [hz, Nat.mul_add] at a1
  rw [a2, val_take_succ', hx, Nat.add_mul, Nat.mul_assoc, hs, Nat.mul_add, ← h, pw]
  have e : 4294967296 * pw k * hi = pw k * (4294967296 * hi) := by rw [Nat.mul_comm 4294967296, Nat.mul_assoc]
  rw [e]
  omega
theorem shl_parts (x s : Nat) (hs : s < 32) (hx : x < 4294967296) : ∃ lo hi, x * 2 ^ s = lo + 4294967296 * hi ∧ lo < 4294967296 ∧ hi < 2 ^ s ∧ lo % 2 ^ s = 0 ∧ x * 2 ^ s < 18446744073709551616 ∧ 2 ^ s ≤ 2147483648 := by
  have p : 0 < 2 ^ s := Nat.two_pow_pos s
  have h32 : 2 ^ s ≤ 2147483648 := by
    have := Nat.pow_le_pow_right (show 0 < 2 by omega) (show s ≤ 31 by omega)
    simpa using this
  have h1 : x * 2 ^ s ≤ 4294967295 * 2147483648 := Nat.mul_le_mul (by omega) h32
  refine ⟨x * 2 ^ s % 4294967296, x * 2 ^ s / 4294967296, by omega, by omega, ?_, ?_, by omega, h32⟩
  · rw [Nat.div_lt_iff_lt_mul (by omega), Nat.mul_comm (2 ^ s)]
    exact Nat.mul_lt_mul_of_pos_right hx p
  · have e : (4294967296 : Nat) = 2 ^ s * 2 ^ (32 - s) := by rw [← Nat.pow_add, show s + (32 - s) = 32 by omega]
    rw [e, Nat.mod_mul_right_mod]
    simp

set_option maxRecDepth 100000 in
set_option maxHeartbeats 2000000 in
theorem shiftUp_any (ax : Option Addr) (nx cx s : Nat) (xs : List Nat) (w : World) (hx : Sl .u32 w (.slice ax nx cx) xs) (bx : xs.length ≤ 100000) (ox : okw xs) (hs : s < 32) :
    Calls Try.prog 44 #[.slice ax nx cx, .int .i64 (s : Int)] w fun e w' => ∃ Q : List Nat, e = .returned (.slice (some ⟨w.heap.size, 0, none⟩) (xs.length + 1) (xs.length + 1)) ∧ Q.length = xs.length + 1 ∧ okw Q ∧ val Q = val xs * 2 ^ s ∧ Row .u32 52 w' w.heap.size Q ∧ Below w.heap.size w w' := by
  obtain rfl := hx.len
  obtain ⟨b1, o1, hax, sx⟩ := hx.place
  have HAX : Hid (xs ≠ [] → ax = some ⟨b1, o1, none⟩ ∧ b1 < w.heap.size) := hax
  clear hx hax
  obtain ⟨i0, hi, hz0, hz1, hz2⟩ := info_parts Try.infoWord
  go_enter Try.func44, Try.ntmps44
  go_wp2_with (at_make; refine wpList_make_full _ rfl _ _ 22 rfl w.heap.size 52 i0 (.int .u32 0) 1 Try.underlying22 hi hz0 hz1 .i64 .i64 _ _ (xs.length + 1) rfl rfl (by omega) (by omega) (by rw [hz2]; omega) (by unfold maxLen; omega) (Nat.le_refl _) ?_; intro w1 hown1 hgrow1; have hb1 : Below w.heap.size w w1 := (Below.refl _ w).grown hgrow1 (Nat.le_refl _) (fun k e => by cases e); have hr1 : Row .u32 52 w1 w.heap.size (List.replicate (xs.length + 1) 0) := row_made hown1; clear hown1 hgrow1)
  go_loopw [15] (fun iv wr => ∃ (k : Nat) (Q : List Nat), k ≤ xs.length ∧ iv = .int .i64 (k : Int) ∧ Q.length = xs.length + 1 ∧ okw Q ∧ val Q = val (xs.take k) * 2 ^ s ∧ Q[k]?.getD 0 < 2 ^ s ∧ (∀ t, k < t → Q[t]?.getD 0 = 0) ∧ Row .u32 52 wr w.heap.size Q ∧ Below w.heap.size w wr) (fun iv _ => xs.length - (intOf iv).toNat)
  case atStart => exact ⟨0, _, Nat.zero_le _, rfl, by simp, (fun x hx => by have := (List.mem_replicate.1 hx).2; omega), by rw [val_replicate]; simp [val], (by rw [List.getElem?_replicate]; split <;> exact Nat.two_pow_pos s), (fun t _ => by rw [List.getElem?_replicate]; split <;> rfl), hr1, hb1⟩
  case round =>
    clear hr1 hb1
    obtain ⟨k, Q, hk, rfl, hQ, oQ, hval, hz, hnul, hrow, hbel⟩ := hrel
    have A : Hid (Q.length = xs.length + 1 ∧ val Q = val (xs.take k) * 2 ^ s ∧ ∀ t, k < t → Q[t]?.getD 0 = 0) := ⟨hQ, hval, hnul⟩
    clear hQ hval hnul
    by_cases hlt : k < xs.length
    · have hxn : xs ≠ [] := by intro h; subst h; simp at hlt
      obtain ⟨e1, hl1⟩ := HAX.out hxn
      have hcx : wr.cell? ⟨b1, o1 + k, none⟩ = some (.int .u32 ((xs[k]?.getD 0 : Nat) : Int)) := sx.below hbel hl1 k hlt
      obtain ⟨x, hx⟩ : ∃ v, xs[k]?.getD 0 = v := ⟨_, rfl⟩
      have hxb := okw_get ox k
      rw [hx] at hcx hxb
      obtain ⟨z, hzz⟩ : ∃ z, Q[k]?.getD 0 = z := ⟨_, rfl⟩
      rw [hzz] at hz
      have hcq := hrow.cell k (by rw [A.out.1]; omega)
      have hfq := hrow.fr k
      rw [hzz] at hcq
      obtain ⟨lo, hi', s1, s2, s3, s4, s5, s6⟩ := shl_parts x s hs hxb
      have HS : Hid (val ((Q.set k (lo + z)).set (k + 1) hi') = val (xs.take (k + 1)) * 2 ^ s) := up_step A.out.2.1 hx hzz (A.out.2.2 (k + 1) (by omega)) (by rw [A.out.1]; omega) s1
      have hrow2 := hrow.turn2 k (lo + z)
      have hcq1 := hrow2.cell (k + 1) (by rw [List.length_set, A.out.1]; omega)
      have hfq1 := hrow2.fr (k + 1)
      have hj : lo + z < 4294967296 := by
        have e : (4294967296 : Nat) = 2 ^ s * 2 ^ (32 - s) := by rw [← Nat.pow_add, show s + (32 - s) = 32 by omega]
        obtain ⟨q, hq⟩ := Nat.dvd_of_mod_eq_zero s4
        have h1 : q < 2 ^ (32 - s) := by
          rw [hq, e] at s2
          exact (Nat.mul_lt_mul_left (Nat.two_pow_pos s)).1 s2
        have h2 : 2 ^ s * (q + 1) ≤ 2 ^ s * 2 ^ (32 - s) := Nat.mul_le_mul_left _ h1
        rw [← e, Nat.mul_add, ← hq] at h2
        omega
      have hor := or_join32 z lo s hs hz s4 s2
      obtain ⟨W, hW⟩ : ∃ W, x * 2 ^ s = W := ⟨_, rfl⟩
      rw [hW] at s1 s5
      obtain ⟨J, hJ⟩ : ∃ J, lo + z = J := ⟨_, rfl⟩
      rw [hJ] at HS hrow2 hcq1 hfq1 hj hor
      have sh : (x : Int) * 2 ^ s = (W : Int) := by rw [← hW]; push_cast; rfl
      have m1 : (W : Int) % 4294967296 = (lo : Int) := by omega
      have m2 : (W : Int) / 4294967296 = (hi' : Int) := by omega
      have hi1 : hi' < 4294967296 := by omega
      subst e1
      clear hx hzz hW hJ s1 s4 s6
      go_wp2_with fail
      go_roundw
      case rel =>
        refine ⟨k + 1, (Q.set k J).set (k + 1) hi', by omega, by go_num, by rw [List.length_set, List.length_set]; exact A.out.1, okw_set (okw_set oQ _ _ hj) _ _ hi1, HS.out, ?_, fun t ht => ?_, hrow2.turn2 (k + 1) hi', (hbel.setCell (p := ⟨w.heap.size, k, none⟩) (Nat.le_refl _) _).setCell (p := ⟨w.heap.size, k + 1, none⟩) (Nat.le_refl _) _⟩
        · rw [List.getElem?_set_self (by rw [List.length_set, A.out.1]; omega)]
          exact s3
        · rw [List.getElem?_set_ne (by omega), List.getElem?_set_ne (by omega)]
          exact A.out.2.2 t (by omega)
      case measure => simp [intOf]; omega
    · obtain rfl : k = xs.length := by omega
      have t1 : ¬ (xs.length : Int) < xs.length := by omega
      have HE : Hid (val Q = val xs * 2 ^ s) := (by have := A.out.2.1; rw [List.take_length] at this; exact this)
      clear hz
      go_wp2
      go_ret
      exact ⟨rfl, Q, A.out.1, oQ, HE.out, hrow, hbel⟩
end Go.Proofs.Yteplmnnpmekngab
