/-
  Bytes as whole numbers with a sign.
-/
import Derived.Test.YtajbieokcdejgaaCeByt
import Derived.Laws.BitsAllLaws
namespace Go.Proofs.Ytajbieokcdejgaa
open Go.RowKit Go.WideShapes

/-- The first q bytes of cell i, of W bytes, as a number. -/
def acc (W : Nat) (g : Nat → Int) (i : Nat) : Nat → Int
  | 0 => 0
  | q + 1 => acc W g i q + g (i * W + q) * 256 ^ q
/-- A cell of W bytes. -/
def sgn (W : Nat) (x : Int) : Int := if W = 1 then (x + 128) % 256 - 128 else if W = 2 then (x + 32768) % 65536 - 32768 else (x + 2147483648) % 4294967296 - 2147483648
def ld (W : Nat) (g : Nat → Int) (i : Nat) : Int := sgn W (acc W g i W)
theorem acc_bound (W : Nat) (g : Nat → Int) (i : Nat) (q : Nat) (h : ∀ k, k < q → 0 ≤ g (i * W + k) ∧ g (i * W + k) < 256) : 0 ≤ acc W g i q ∧ acc W g i q < 256 ^ q := by
  induction q with
  | zero => simp [acc]
  | succ q ih =>
    have h1 := ih fun k hk => h k (by omega)
    have h2 := h q (by omega)
    rw [acc, Int.pow_succ]
    generalize (256 : Int) ^ q = p at h1 ⊢
    generalize g (i * W + q) = x at h2 ⊢
    obtain ⟨y0, hy⟩ : ∃ y : Nat, x = (y : Int) := ⟨x.toNat, by omega⟩
    subst hy
    have h3 : (y0 : Int) * p ≤ 255 * p := Int.mul_le_mul_of_nonneg_right (by omega) (by omega)
    have h4 : 0 ≤ (y0 : Int) * p := Int.mul_nonneg (by omega) (by omega)
    omega
theorem ofInt_wrap (k : IntKind) (nb : Nat) (z y : Int) (h : k.bits = nb) (e : y % (2 ^ nb : Nat) = z % (2 ^ nb : Nat)) : BitVec.ofInt k.bits y = BitVec.ofInt k.bits z := by
  subst h
  apply BitVec.eq_of_toInt_eq
  rw [BitVec.toInt_ofInt, BitVec.toInt_ofInt, Int.bmod_def, Int.bmod_def, e]
/-- y | z, where z lies above y, in a kind with a sign. -/
theorem or_above (k : IntKind) (nb i : Nat) (hk : k.bits = nb) (y z x : Int) (hy0 : 0 ≤ y) (hy : y < 2 ^ i) (hynb : y < 2 ^ nb) (hz0 : 0 ≤ z) (hz : z % 2 ^ i = 0) (hznb : z < 2 ^ nb) (hx : x % (2 ^ nb : Nat) = z % (2 ^ nb : Nat)) : bits BinOp.or k y x = k.wrap (y + z) := by
  subst hk
  obtain ⟨a, rfl⟩ := Int.eq_ofNat_of_zero_le hy0
  obtain ⟨b, rfl⟩ := Int.eq_ofNat_of_zero_le hz0
  have ha : a < 2 ^ k.bits := by exact_mod_cast hynb
  have hb : b < 2 ^ k.bits := by exact_mod_cast hznb
  have ha' : a < 2 ^ i := by exact_mod_cast hy
  have hb' : b % 2 ^ i = 0 := by exact_mod_cast hz
  simp only [bits, ofInt_wrap k _ _ _ rfl hx, BitVec.ofInt_natCast, BitVec.toNat_or, BitVec.toNat_ofNat, Nat.mod_eq_of_lt ha, Nat.mod_eq_of_lt hb]
  rw [Nat.or_comm, nat_join i b a hb' ha', show ((b + a : Nat) : Int) = (a : Int) + (b : Int) by omega]
theorem sgn_bound (W : Nat) (hW : W = 1 ∨ W = 2 ∨ W = 4) (x : Int) : -2147483648 ≤ sgn W x ∧ sgn W x < 2147483648 := by
  unfold sgn
  rcases hW with rfl | rfl | rfl
  · simp; omega
  · simp; omega
  · simp; omega
theorem or8_0 (b : Int) (h0 : 0 ≤ b) (h1 : b < 256) : bits BinOp.or .i8 0 (IntKind.i8.wrap b) = sgn 1 (0 + b * 256 ^ 0) := by
  rw [or_above .i8 8 0 rfl 0 b _ (by decide) (by decide) (by decide) h0 (by omega) h1 (by rw [wrap_i8]; omega), wrap_i8]
  simp [sgn]
end Go.Proofs.Ytajbieokcdejgaa
