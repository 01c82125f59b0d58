/-
  The reference: by.
-/
import Derived.Test.YteplmnnpmekngabRText
namespace Go.Proofs.Yteplmnnpmekngab
open Go.RowKit

theorem or_one (z : Nat) (hz : z % 2 = 0) (h : z < 4294967296) : bits BinOp.or IntKind.u32 (z : Int) 1 = ((z + 1 : Nat) : Int) := by
  rw [bits_join .u32 32 (by decide) (fun n h0 h1 => by rw [IntKind.wrap_u32]; omega) 1 _ _ (by omega) (by omega) (by omega) (by omega) (by omega) (by omega)]
  push_cast; rfl
theorem or_bit (z s : Nat) (hs : s < 32) (hz : z % 2 ^ (s + 1) = 0) (h : z < 4294967296) : bits BinOp.or IntKind.u32 (z : Int) ((2 ^ s : Nat) : Int) = ((z + 2 ^ s : Nat) : Int) ∧ z + 2 ^ s < 4294967296 := by
  have h1 : 2 ^ s < 2 ^ (s + 1) := by rw [Nat.pow_succ]; have := Nat.two_pow_pos s; omega
  have e : (4294967296 : Nat) = 2 ^ (s + 1) * 2 ^ (31 - s) := by rw [← Nat.pow_add, show s + 1 + (31 - s) = 32 by omega]
  have h2 : 2 ^ (s + 1) ≤ 4294967296 := by rw [e]; exact Nat.le_mul_of_pos_right _ (Nat.two_pow_pos _)
  have h3 : z + 2 ^ (s + 1) ≤ 4294967296 := by
    obtain ⟨q, hq⟩ := Nat.dvd_of_mod_eq_zero hz
    rw [hq, e] at h
    have h4 := (Nat.mul_lt_mul_left (Nat.two_pow_pos (s + 1))).1 h
    have h5 : 2 ^ (s + 1) * (q + 1) ≤ 2 ^ (s + 1) * 2 ^ (31 - s) := Nat.mul_le_mul_left _ h4
    rw [← e, Nat.mul_add, ← hq] at h5
    omega
  refine ⟨?_, by omega⟩
  rw [bits_join .u32 32 (by decide) (fun n h0 h1 => by rw [IntKind.wrap_u32]; omega) (s + 1) _ _ (by omega) (by exact_mod_cast hz) (by omega) (by omega) (by exact_mod_cast h1) (by omega)]
  push_cast; rfl
theorem word_of {Q : List Nat} (o : okw Q) (p : Nat) (h : p < Q.length) : Q[p]?.getD 0 = val Q / pw p % 4294967296 := by
  have h1 := val_split Q p (by omega)
  have h2 := val_lt (okw_take o p)
  rw [List.length_take, Nat.min_eq_left (by omega)] at h2
  rw [h1, Nat.add_mul_div_left _ _ (pw_pos p), Nat.div_eq_of_lt h2, Nat.zero_add, val_drop_get Q p h, Nat.add_mul_mod_self_left, Nat.mod_eq_of_lt (okw_get o p)]
/-- The word of a number that ends in noughts ends in noughts. -/
theorem word_low {Q : List Nat} (o : okw Q) {p s i D : Nat} (hp : p < Q.length) (hs : s < 32) (hi : i = 32 * p + s) (hv : val Q = D * 2 ^ (i + 1)) : Q[p]?.getD 0 % 2 ^ (s + 1) = 0 := by
  rw [word_of o p hp, hv, pw_two, hi, show 32 * p + s + 1 = 32 * p + (s + 1) by omega, Nat.pow_add, ← Nat.mul_assoc, Nat.mul_right_comm, Nat.mul_div_cancel _ (Nat.two_pow_pos _)]
  rw [show (4294967296 : Nat) = 2 ^ (s + 1) * 2 ^ (31 - s) by rw [← Nat.pow_add, show s + 1 + (31 - s) = 32 by omega], Nat.mod_mul_right_mod, Nat.mul_mod_left]
theorem quot_step {V i m r b : Nat} (hm : 0 < m) (e : V / 2 ^ (i + 1) % m = r) (hb : V / 2 ^ i % 2 = b) : V / 2 ^ i / m * 2 ^ i = V / 2 ^ (i + 1) / m * 2 ^ (i + 1) + if m ≤ 2 * r + b then 2 ^ i else 0 := by
  have h := half_step V i
  rw [hb] at h
  have hb2 : b < 2 := by rw [← hb]; exact Nat.mod_lt _ (by decide)
  have hr : r < m := by rw [← e]; exact Nat.mod_lt _ hm
  have hd := Nat.div_add_mod (V / 2 ^ (i + 1)) m
  rw [e] at hd
  obtain ⟨A, hA⟩ : ∃ A, V / 2 ^ (i + 1) / m = A := ⟨_, rfl⟩
  rw [hA] at hd ⊢
  have e3 : V / 2 ^ i = m * (2 * A) + (2 * r + b) := by rw [h, ← hd, Nat.mul_add, Nat.mul_left_comm]; omega
  rw [e3, Nat.mul_add_div hm, Nat.pow_succ]
  split
  · rw [show (2 * r + b) / m = 1 from Nat.div_eq_of_lt_le (by omega) (by omega), Nat.add_mul, Nat.one_mul, Nat.mul_comm 2 A, Nat.mul_assoc, Nat.mul_comm 2 (2 ^ i)]
  · rw [Nat.div_eq_of_lt (by omega), Nat.add_zero, Nat.mul_comm 2 A, Nat.mul_assoc, Nat.mul_comm 2 (2 ^ i), Nat.add_zero]

theorem even_first {zs : List Nat} {n : Nat} (o : okw zs) (hn : zs ≠ []) (h : val zs = n + n) : zs[0]?.getD 0 % 2 = 0 := by
  cases zs with
  | nil => exact absurd rfl hn
  | cons z zs =>
    simp only [val] at h
    simp only [List.getElem?_cons_zero, Option.getD_some]
    omega
theorem Words.belowW {B : Nat} {w w' : World} {v : Value} {xs : List Nat} (h : Words B w v xs) (hb : Below w.heap.size w w') : Words B w' v xs := by
  refine ⟨h.1, ?_⟩
  rcases h.2 with h2 | ⟨g, cap, cur, e, hB, hh, h3⟩
  · exact Or.inl h2
  · exact Or.inr ⟨g, cap, cur, e, hB, (hb.block g (Array.getElem?_eq_some_iff.1 hh).1).trans hh, h3⟩
theorem Words.setLow {B : Nat} {w : World} {v : Value} {xs : List Nat} (h : Words B w v xs) {p : Addr} (hp : p.block < B) (u : Value) : Words B (w.setCell p u) v xs := by
  refine ⟨h.1, ?_⟩
  rcases h.2 with h2 | ⟨g, cap, cur, e, hB, hh, h3⟩
  · exact Or.inl h2
  · exact Or.inr ⟨g, cap, cur, e, hB, by rw [Below.heap_setCell _ _ _ _ (by omega)]; exact hh, h3⟩
theorem Row.belowW {k : IntKind} {t : TypeId} {w w' : World} {g : Nat} {xs : List Nat} (h : Row k t w g xs) (hb : Below w.heap.size w w') : Row k t w' g xs := (hb.block g h.lt).trans h

end Go.Proofs.Yteplmnnpmekngab
