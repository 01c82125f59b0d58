/-
  What math/bits' Div64 does: its rest.
-/
import Derived.Deep.CutBlock
import Derived.Laws.MathBits
import Derived.Test.YteplmnnpmekngabBits
namespace Go.Proofs.Yteplmnnpmekngab
open Go.RowKit

/-! Two digits by one, the divisor's highest bit set. -/
structure Norm (Y y1 y0 : Nat) : Prop where
  eq : Y = y1 * 4294967296 + y0
  lo : y0 < 4294967296
  ge : 2147483648 ≤ y1
  lt : y1 < 4294967296

/-- A guess q with its remainder r, not too small. -/
structure Gs (Y y1 u d q r : Nat) : Prop where
  sum : q * y1 + r = u
  rlt : r < 4294967296
  big : u * 4294967296 + d < (q + 1) * Y

theorem Gs.start {Y y1 y0 u d : Nat} (n : Norm Y y1 y0) (hd : d < 4294967296) : Gs Y y1 u d (u / y1) (u % y1) := by
  have p : 0 < y1 := by have := n.ge; omega
  have m := Nat.mod_lt u p
  have e : u / y1 * y1 + u % y1 = u := by rw [Nat.mul_comm]; exact Nat.div_add_mod u y1
  refine ⟨e, by have := n.lt; omega, ?_⟩
  rw [n.eq, Nat.mul_add, Nat.add_mul, Nat.add_mul, ← Nat.mul_assoc, Nat.one_mul, Nat.one_mul]
  generalize u / y1 * y1 = A at e ⊢
  omega
theorem mul_norm {Y y1 y0 : Nat} (n : Norm Y y1 y0) (q : Nat) : q * Y = q * y1 * 4294967296 + q * y0 := by
  rw [n.eq, Nat.mul_add, ← Nat.mul_assoc]
/-- The test tells whether the guess is too great. -/
theorem Gs.test {Y y1 y0 u d q r : Nat} (n : Norm Y y1 y0) (g : Gs Y y1 u d q r) : 4294967296 * r + d < q * y0 ↔ u * 4294967296 + d < q * Y := by
  have e := mul_norm n q
  have s := g.sum
  generalize q * y1 = A at e s
  generalize q * y0 = C at e ⊢
  omega
theorem Gs.high {Y y1 u d q r : Nat} (_g : Gs Y y1 u d q r) (hu : u < Y) (hd : d < 4294967296) (hq : 4294967296 ≤ q) : u * 4294967296 + d < q * Y := by
  have : 4294967296 * Y ≤ q * Y := Nat.mul_le_mul_right _ hq
  generalize q * Y = A at this ⊢
  omega
theorem Gs.pos {Y y1 u d q r : Nat} (_g : Gs Y y1 u d q r) (h : u * 4294967296 + d < q * Y) : 0 < q := by
  cases q with
  | zero => simp at h
  | succ q => omega
theorem Gs.down {Y y1 u d q r : Nat} (g : Gs Y y1 u d (q + 1) r) (h : u * 4294967296 + d < (q + 1) * Y) (hr : r + y1 < 4294967296) : Gs Y y1 u d q (r + y1) := by
  refine ⟨?_, hr, h⟩
  have s := g.sum
  rw [Nat.add_mul, Nat.one_mul] at s
  omega
/-- What is known when the loop has ended. -/
def Fits (Y u d q : Nat) : Prop := q < 4294967296 ∧ q * Y ≤ u * 4294967296 + d ∧ u * 4294967296 + d < (q + 1) * Y
theorem Fits.low {Y u d q : Nat} (hu : u < Y) (hd : d < 4294967296) (h : q * Y ≤ u * 4294967296 + d) : q < 4294967296 := by
  rcases Nat.lt_or_ge q 4294967296 with h1 | h1
  · exact h1
  · have : 4294967296 * Y ≤ q * Y := Nat.mul_le_mul_right _ h1
    generalize q * Y = A at this h
    omega
theorem Gs.fits {Y y1 u d q r : Nat} (g : Gs Y y1 u d q r) (hu : u < Y) (hd : d < 4294967296) (h : ¬ u * 4294967296 + d < q * Y) : Fits Y u d q := by
  have h' : q * Y ≤ u * 4294967296 + d := by generalize q * Y = A at h ⊢; omega
  exact ⟨Fits.low hu hd h', h', g.big⟩
theorem Gs.breaks {Y y1 y0 u d q r : Nat} (n : Norm Y y1 y0) (g : Gs Y y1 u d (q + 1) r) (hu : u < Y) (hd : d < 4294967296) (h : u * 4294967296 + d < (q + 1) * Y) (hr : 4294967296 ≤ r + y1) : Fits Y u d q := by
  have s := g.sum
  rw [Nat.add_mul, Nat.one_mul] at s
  have e := mul_norm n q
  have q1 : q < 4294967296 := by
    rcases Nat.lt_or_ge q 4294967296 with h1 | h1
    · exact h1
    · have := Nat.mul_le_mul_right y1 h1
      have := n.eq
      have := n.lo
      generalize q * y1 = A at *
      omega
  have q2 : q * y0 ≤ 4294967296 * 4294967296 := Nat.mul_le_mul (Nat.le_of_lt q1) (Nat.le_of_lt n.lo)
  refine ⟨q1, ?_, h⟩
  generalize q * y1 = A at *
  generalize q * y0 = C at *
  omega
/-- What is left. -/
theorem Fits.rest {Y u d q : Nat} (f : Fits Y u d q) : u * 4294967296 + d - q * Y < Y := by
  have h := f.2.2
  rw [Nat.add_mul, Nat.one_mul] at h
  have := f.2.1
  generalize q * Y = A at *
  omega
theorem two_digits {Y u v1 v0 q1 q0 : Nat} (f1 : Fits Y u v1 q1) (f0 : Fits Y (u * 4294967296 + v1 - q1 * Y) v0 q0) :
    (u * 18446744073709551616 + (v1 * 4294967296 + v0)) % Y = (u * 4294967296 + v1 - q1 * Y) * 4294967296 + v0 - q0 * Y := by
  have r0 := f0.rest
  have h1 := f1.2.1
  have h0 := f0.2.1
  have e : u * 18446744073709551616 + (v1 * 4294967296 + v0) = (q1 * 4294967296 + q0) * Y + ((u * 4294967296 + v1 - q1 * Y) * 4294967296 + v0 - q0 * Y) := by
    rw [Nat.add_mul, show q1 * 4294967296 * Y = q1 * Y * 4294967296 by rw [Nat.mul_assoc, Nat.mul_comm 4294967296, ← Nat.mul_assoc]]
    generalize q1 * Y = A at *
    generalize q0 * Y = C at *
    omega
  rw [e, Nat.mul_comm _ Y, Nat.mul_add_mod, Nat.mod_eq_of_lt r0]

theorem shifted (hi lo s : Nat) (hs : s ≤ 63) : (hi * 18446744073709551616 + lo) * 2 ^ s = (hi * 2 ^ s + lo / 2 ^ (64 - s)) * 18446744073709551616 + lo * 2 ^ s % 18446744073709551616 := by
  have e : lo * 2 ^ s / 18446744073709551616 = lo / 2 ^ (64 - s) := by
    have : (18446744073709551616 : Nat) = 2 ^ (64 - s) * 2 ^ s := by rw [← Nat.pow_add, show 64 - s + s = 64 by omega]
    rw [this, Nat.mul_div_mul_right _ _ (Nat.two_pow_pos s)]
  have m := Nat.div_add_mod (lo * 2 ^ s) 18446744073709551616
  rw [e] at m
  rw [Nat.add_mul, Nat.mul_right_comm]
  generalize hi * 2 ^ s = A at *
  generalize lo * 2 ^ s = C at *
  omega
theorem shifted_lt {hi lo y u v s : Nat} (hh : hi < y) (hl : lo < 18446744073709551616) (e : (hi * 18446744073709551616 + lo) * 2 ^ s = u * 18446744073709551616 + v) : u < y * 2 ^ s := by
  have h1 : hi * 18446744073709551616 + lo < y * 18446744073709551616 := by omega
  have h2 := Nat.mul_lt_mul_of_pos_right h1 (Nat.two_pow_pos s)
  rw [e, Nat.mul_right_comm] at h2
  generalize y * 2 ^ s = A at *
  omega
theorem unshifted (X y s : Nat) : X * 2 ^ s % (y * 2 ^ s) / 2 ^ s = X % y := by
  rw [Nat.mul_mod_mul_right, Nat.mul_div_cancel _ (Nat.two_pow_pos s)]
theorem wrap_cast (n : Nat) (h : n < 18446744073709551616) : IntKind.u64.wrap (n : Int) = (n : Int) := by
  rw [IntKind.wrap_u64]; omega

theorem or_shift (A L s : Nat) (hA : A % 2 ^ s = 0) (hA1 : A < 18446744073709551616) (hL : L < 2 ^ s) (hL1 : L < 18446744073709551616) : bits BinOp.or IntKind.u64 (A : Int) (L : Int) = ((A + L : Nat) : Int) := by
  rw [bits_join .u64 64 (by decide) (fun n h0 h1 => by rw [IntKind.wrap_u64]; omega) s _ _ (by omega) (by exact_mod_cast hA) (by omega) (by omega) (by exact_mod_cast hL) (by omega)]
  push_cast; rfl

set_option maxRecDepth 100000 in
theorem div64_low (lo y : Nat) (hy : 0 < y) (hy1 : y < 18446744073709551616) (hl : lo < 18446744073709551616) (w : World) :
    Calls Try.prog 28 #[.int .u64 0, .int .u64 (lo : Int), .int .u64 (y : Int)] w fun e w' => (∃ q : Int, e = .returned (.tuple #[.int .u64 q, .int .u64 ((lo % y : Nat) : Int)])) ∧ Below w.heap.size w w' := by
  go_enter Try.func28, Try.ntmps28
  have d1 : ¬ (y : Int) = 0 := by omega
  have d2 : ¬ (y : Int) ≤ 0 := by omega
  go_wp2_with fail
  go_region
  go_wp2
  refine bodyPost_ret (v := .tuple #[.int .u64 (IntKind.u64.wrap ((lo : Int) / y)), .int .u64 ((lo : Int) % y)]) ?_ rfl ⟨⟨_, by simp; rfl⟩, ⟨rfl, rfl, rfl, Nat.le_refl _, fun _ _ => rfl⟩⟩
  simp [results, Try.f28, go_sem]

set_option maxRecDepth 100000 in
set_option maxHeartbeats 2000000 in
theorem div64_high (hi lo y : Nat) (hh : hi < y) (h0 : 0 < hi) (hy1 : y < 18446744073709551616) (hl : lo < 18446744073709551616) (w : World) :
    Calls Try.prog 28 #[.int .u64 (hi : Int), .int .u64 (lo : Int), .int .u64 (y : Int)] w fun e w' => (∃ q : Int, e = .returned (.tuple #[.int .u64 q, .int .u64 (((hi * 18446744073709551616 + lo) % y : Nat) : Int)])) ∧ Below w.heap.size w w' := by
  go_enter Try.func28, Try.ntmps28
  have d1 : ¬ (y : Int) = 0 := by omega
  have d2 : ¬ (y : Int) ≤ hi := by omega
  have d3 : ¬ (hi : Int) = 0 := by omega
  go_wp2_with fail
  refine (lz64_any y (by omega) hy1 w).mono ?_
  rintro e w' ⟨s, rfl, ⟨s1, s2, s3⟩, rfl⟩
  have S2 : Hid (9223372036854775808 ≤ y * 2 ^ s) := s2
  have S3 : Hid (y * 2 ^ s < 18446744073709551616) := s3
  -- the shifted numbers
  obtain ⟨u, hu⟩ : ∃ u, hi * 2 ^ s + lo / 2 ^ (64 - s) = u := ⟨_, rfl⟩
  obtain ⟨v, hv⟩ : ∃ v, lo * 2 ^ s % 18446744073709551616 = v := ⟨_, rfl⟩
  have U := shifted hi lo s s1
  rw [hu, hv] at U
  have u1 := shifted_lt hh hl U
  have v1 : v < 18446744073709551616 := by rw [← hv]; exact Nat.mod_lt _ (by decide)
  have a1 : hi * 2 ^ s < 18446744073709551616 := by
    have := Nat.le_add_right (hi * 2 ^ s) (lo / 2 ^ (64 - s))
    rw [hu] at this
    exact Nat.lt_trans (Nat.lt_of_le_of_lt this u1) s3
  have a2 : lo / 2 ^ (64 - s) < 2 ^ s := by
    rw [Nat.div_lt_iff_lt_mul (Nat.two_pow_pos _), ← Nat.pow_add, show s + (64 - s) = 64 by omega]
    exact hl
  have eY : IntKind.u64.wrap ((y : Int) * 2 ^ s) = ((y * 2 ^ s : Nat) : Int) := by
    rw [show (y : Int) * 2 ^ s = ((y * 2 ^ s : Nat) : Int) by push_cast; rfl]; exact wrap_cast _ s3
  have eH : IntKind.u64.wrap ((hi : Int) * 2 ^ s) = ((hi * 2 ^ s : Nat) : Int) := by
    rw [show (hi : Int) * 2 ^ s = ((hi * 2 ^ s : Nat) : Int) by push_cast; rfl]; exact wrap_cast _ a1
  have eV : IntKind.u64.wrap ((lo : Int) * 2 ^ s) = (v : Int) := by
    rw [show (lo : Int) * 2 ^ s = ((lo * 2 ^ s : Nat) : Int) by push_cast; rfl, IntKind.wrap_u64, ← hv]; omega
  have eL : (lo : Int) / 2 ^ (64 - s) = ((lo / 2 ^ (64 - s) : Nat) : Int) := by push_cast; rfl
  have eU : bits BinOp.or IntKind.u64 ((hi * 2 ^ s : Nat) : Int) ((lo / 2 ^ (64 - s) : Nat) : Int) = (u : Int) := by
    rw [← hu]
    exact or_shift _ _ s (Nat.mul_mod_left _ _) a1 a2 (Nat.lt_of_le_of_lt (Nat.div_le_self _ _) hl)
  obtain ⟨Y, hY⟩ : ∃ Y, y * 2 ^ s = Y := ⟨_, rfl⟩
  obtain ⟨A, hA⟩ : ∃ A, hi * 2 ^ s = A := ⟨_, rfl⟩
  obtain ⟨L, hL⟩ : ∃ L, lo / 2 ^ (64 - s) = L := ⟨_, rfl⟩
  rw [hA] at eH eU
  rw [hL] at eL eU
  have n : Norm Y (Y / 4294967296) (Y % 4294967296) := ⟨by omega, by omega, by omega, by omega⟩
  have HY : Hid (y * 2 ^ s = Y) := hY
  have HU : Hid ((hi * 18446744073709551616 + lo) * 2 ^ s = u * 18446744073709551616 + v) := U
  rw [hY] at eY u1 s2 s3
  clear hY U hu hv S2 S3 a1 a2 hA hL
  obtain ⟨y1, hy1'⟩ : ∃ k, Y / 4294967296 = k := ⟨_, rfl⟩
  obtain ⟨y0, hy0'⟩ : ∃ k, Y % 4294967296 = k := ⟨_, rfl⟩
  obtain ⟨vh, hvh⟩ : ∃ k, v / 4294967296 = k := ⟨_, rfl⟩
  obtain ⟨vl, hvl⟩ : ∃ k, v % 4294967296 = k := ⟨_, rfl⟩
  have f1 : (Y : Int) / 4294967296 = (y1 : Int) := by omega
  have f2 : bits BinOp.and IntKind.u64 (Y : Int) 4294967295 = (y0 : Int) := by rw [and_low32 _ (by omega) (by omega)]; omega
  have f3 : (v : Int) / 4294967296 = (vh : Int) := by omega
  have f4 : bits BinOp.and IntKind.u64 (v : Int) 4294967295 = (vl : Int) := by rw [and_low32 _ (by omega) (by omega)]; omega
  have ev : v = vh * 4294967296 + vl := by omega
  have b1 : vh < 4294967296 := by omega
  have b2 : vl < 4294967296 := by omega
  rw [hy1', hy0'] at n
  have HV : Hid (v = vh * 4294967296 + vl) := ev
  clear hy1' hy0' hvh hvl ev
  have np := n.ge
  have gs := Gs.start (u := u) n b1
  obtain ⟨q0, hq0⟩ : ∃ k, u / y1 = k := ⟨_, rfl⟩
  obtain ⟨r0, hr0⟩ : ∃ k, u % y1 = k := ⟨_, rfl⟩
  rw [hq0, hr0] at gs
  obtain ⟨P0, hP0⟩ : ∃ k, q0 * y1 = k := ⟨_, rfl⟩
  have hs0 := gs.sum
  rw [hP0] at hs0
  have g1 : IntKind.u64.wrap ((u : Int) / y1) = (q0 : Int) := by
    rw [show (u : Int) / y1 = (q0 : Int) by rw [← hq0]; push_cast; rfl]
    exact wrap_cast _ (by rw [← hq0]; exact Nat.lt_of_le_of_lt (Nat.div_le_self _ _) (by omega))
  have g2 : IntKind.u64.wrap ((q0 : Int) * y1) = (P0 : Int) := by
    rw [show (q0 : Int) * y1 = (P0 : Int) by rw [← hP0]; push_cast; rfl]; exact wrap_cast _ (by omega)
  have g3 : IntKind.u64.wrap ((u : Int) - P0) = (r0 : Int) := by
    rw [show (u : Int) - P0 = (r0 : Int) by omega]; exact wrap_cast _ (by omega)
  have HGs : Hid (Gs Y y1 u vh q0 r0) := gs
  clear gs hs0 hP0 hr0 hq0
  go_upto_block 0 with fail
  clear g1 g2 g3 eY eH eV eL eU f1 f2 f3 f4 d2
  go_cut [15, 16] from 67 to 85 (fun a b W => ∃ q r : Nat, a = .int .u64 (q : Int) ∧ b = .int .u64 (r : Int) ∧ Fits Y u vh q ∧ W = w')
  case first =>
    go_wp2_with fail
    go_loop [15, 16] (fun a b => ∃ q r : Nat, a = .int .u64 (q : Int) ∧ b = .int .u64 (r : Int) ∧ Gs Y y1 u vh q r) (fun a _ => (intOf a).toNat)
    case atStart => exact ⟨q0, r0, rfl, rfl, HGs.out⟩
    case round =>
      obtain ⟨q, r, rfl, rfl, g⟩ := hrel
      have rl := g.rlt
      have yl := n.lt
      have zl := n.lo
      by_cases c : u * 4294967296 + vh < q * Y
      · obtain ⟨q', rfl⟩ : ∃ q', q = q' + 1 := ⟨q - 1, by have := g.pos c; omega⟩
        have qb : q' + 1 < 18446744073709551616 := by
          have s5 := g.sum
          have : (q' + 1) * 1 ≤ (q' + 1) * y1 := Nat.mul_le_mul_left _ (by omega)
          omega
        by_cases hq : 4294967296 ≤ q' + 1
        · have t1 : (4294967296 : Int) ≤ (q' : Int) + 1 := by omega
          have HG : Hid (Gs Y y1 u vh (q' + 1) r) := g
          have HC : Hid (u * 4294967296 + vh < (q' + 1) * Y) := c
          clear g c
          by_cases hr : 4294967296 ≤ r + y1
          · have t2 : (4294967296 : Int) ≤ (r : Int) + y1 := by omega
            go_wp2_with fail
            go_meet
            case rel => exact ⟨q', r + y1, rfl, rfl, Gs.breaks n HG.out u1 b1 HC.out hr, rfl⟩
          · have t2 : ¬ (4294967296 : Int) ≤ (r : Int) + y1 := by omega
            go_wp2_with fail
            go_round
            case rel => exact ⟨q', r + y1, rfl, rfl, HG.out.down HC.out (by omega)⟩
            case measure => simp [intOf]
        · have t1 : ¬ (4294967296 : Int) ≤ (q' : Int) + 1 := by omega
          obtain ⟨P, hP⟩ : ∃ k, (q' + 1) * y0 = k := ⟨_, rfl⟩
          have hP1 : P < 18446744073709551616 := by
            have : (q' + 1) * y0 ≤ 4294967295 * 4294967295 := Nat.mul_le_mul (by omega) (by omega)
            omega
          have e1 : ((q' : Int) + 1) * y0 = (P : Int) := by rw [← hP]; push_cast; rfl
          have t3 : 4294967296 * r + vh < P := by have := (g.test n).2 c; rw [hP] at this; exact this
          have t4 : 4294967296 * (r : Int) + (vh : Int) < (P : Int) := by omega
          have HG : Hid (Gs Y y1 u vh (q' + 1) r) := g
          have HC : Hid (u * 4294967296 + vh < (q' + 1) * Y) := c
          clear g c hP t3
          by_cases hr : 4294967296 ≤ r + y1
          · have t2 : (4294967296 : Int) ≤ (r : Int) + y1 := by omega
            go_wp2_with fail
            go_meet
            case rel => exact ⟨q', r + y1, rfl, rfl, Gs.breaks n HG.out u1 b1 HC.out hr, rfl⟩
          · have t2 : ¬ (4294967296 : Int) ≤ (r : Int) + y1 := by omega
            go_wp2_with fail
            go_round
            case rel => exact ⟨q', r + y1, rfl, rfl, HG.out.down HC.out (by omega)⟩
            case measure => simp [intOf]
      · have F := g.fits u1 b1 c
        have qb := F.1
        have t1 : ¬ (4294967296 : Int) ≤ (q : Int) := by omega
        obtain ⟨P, hP⟩ : ∃ k, q * y0 = k := ⟨_, rfl⟩
        have hP1 : P < 18446744073709551616 := by
          have : q * y0 ≤ 4294967295 * 4294967295 := Nat.mul_le_mul (by omega) (by omega)
          omega
        have e1 : (q : Int) * y0 = (P : Int) := by rw [← hP]; push_cast; rfl
        have t3 : ¬ 4294967296 * r + vh < P := by have := mt (g.test n).1 c; rw [hP] at this; exact this
        have t4 : ¬ 4294967296 * (r : Int) + (vh : Int) < (P : Int) := by omega
        have HF : Hid (Fits Y u vh q) := F
        clear g c hP t3 F
        go_wp2_with fail
        go_meet
        case rel => exact ⟨q, r, rfl, rfl, HF.out, rfl⟩
  case rest =>
    obtain ⟨q1, r1, rfl, rfl, F1, rfl⟩ := hcut
    obtain ⟨R, hR⟩ : ∃ k, u * 4294967296 + vh - q1 * Y = k := ⟨_, rfl⟩
    have R1 : R < Y := by rw [← hR]; exact F1.rest
    obtain ⟨p1, hp1⟩ : ∃ k, q1 * Y = k := ⟨_, rfl⟩
    obtain ⟨a1, ha1⟩ : ∃ k, u * 4294967296 % 18446744073709551616 = k := ⟨_, rfl⟩
    obtain ⟨a2, ha2⟩ : ∃ k, (a1 + vh) % 18446744073709551616 = k := ⟨_, rfl⟩
    obtain ⟨a3, ha3⟩ : ∃ k, p1 % 18446744073709551616 = k := ⟨_, rfl⟩
    have F2 := F1.2.1
    rw [hp1] at hR F2
    have m1 : IntKind.u64.wrap ((u : Int) * 4294967296) = (a1 : Int) := by rw [IntKind.wrap_u64]; omega
    have m2 : IntKind.u64.wrap ((a1 : Int) + vh) = (a2 : Int) := by rw [IntKind.wrap_u64]; omega
    have m3 : IntKind.u64.wrap ((q1 : Int) * Y) = (a3 : Int) := by rw [show (q1 : Int) * Y = (p1 : Int) by rw [← hp1]; push_cast; rfl, IntKind.wrap_u64]; omega
    have m4 : IntKind.u64.wrap ((a2 : Int) - a3) = (R : Int) := by rw [IntKind.wrap_u64]; omega
    have HF1 : Hid (Fits Y u vh q1) := F1
    have HR : Hid (u * 4294967296 + vh - q1 * Y = R) := (by rw [hp1]; exact hR)
    clear hR hp1 ha1 ha2 ha3 F1 F2 HGs
    have gs := Gs.start (u := R) n b2
    obtain ⟨q3, hq0⟩ : ∃ k, R / y1 = k := ⟨_, rfl⟩
    obtain ⟨r3, hr0⟩ : ∃ k, R % y1 = k := ⟨_, rfl⟩
    rw [hq0, hr0] at gs
    obtain ⟨P3, hP0⟩ : ∃ k, q3 * y1 = k := ⟨_, rfl⟩
    have hs0 := gs.sum
    rw [hP0] at hs0
    have g1 : IntKind.u64.wrap ((R : Int) / y1) = (q3 : Int) := by
      rw [show (R : Int) / y1 = (q3 : Int) by rw [← hq0]; push_cast; rfl]
      exact wrap_cast _ (by rw [← hq0]; exact Nat.lt_of_le_of_lt (Nat.div_le_self _ _) (by omega))
    have g2 : IntKind.u64.wrap ((q3 : Int) * y1) = (P3 : Int) := by
      rw [show (q3 : Int) * y1 = (P3 : Int) by rw [← hP0]; push_cast; rfl]; exact wrap_cast _ (by omega)
    have g3 : IntKind.u64.wrap ((R : Int) - P3) = (r3 : Int) := by
      rw [show (R : Int) - P3 = (r3 : Int) by omega]; exact wrap_cast _ (by omega)
    have HGs : Hid (Gs Y y1 R vl q3 r3) := gs
    clear gs hs0 hP0 hr0 hq0
    go_upto_block 2 with fail
    clear g1 g2 g3 m1 m2 m3 m4
    go_cut [16, 18] from 102 to 120 (fun b a W => ∃ q r : Nat, a = .int .u64 (q : Int) ∧ b = .int .u64 (r : Int) ∧ Fits Y R vl q ∧ W = wc)
    case first =>
      go_wp2_with fail
      go_loop [16, 18] (fun b a => ∃ q r : Nat, a = .int .u64 (q : Int) ∧ b = .int .u64 (r : Int) ∧ Gs Y y1 R vl q r) (fun _ a => (intOf a).toNat)
      case atStart => exact ⟨q3, r3, rfl, rfl, HGs.out⟩
      case round =>
        obtain ⟨q, r, rfl, rfl, g⟩ := hrel
        have rl := g.rlt
        have yl := n.lt
        have zl := n.lo
        by_cases c : R * 4294967296 + vl < q * Y
        · obtain ⟨q', rfl⟩ : ∃ q', q = q' + 1 := ⟨q - 1, by have := g.pos c; omega⟩
          have qb : q' + 1 < 18446744073709551616 := by
            have s5 := g.sum
            have : (q' + 1) * 1 ≤ (q' + 1) * y1 := Nat.mul_le_mul_left _ (by omega)
            omega
          by_cases hq : 4294967296 ≤ q' + 1
          · have t1 : (4294967296 : Int) ≤ (q' : Int) + 1 := by omega
            have HG : Hid (Gs Y y1 R vl (q' + 1) r) := g
            have HC : Hid (R * 4294967296 + vl < (q' + 1) * Y) := c
            clear g c
            by_cases hr : 4294967296 ≤ r + y1
            · have t2 : (4294967296 : Int) ≤ (r : Int) + y1 := by omega
              go_wp2_with fail
              go_meet
              case rel => exact ⟨q', r + y1, rfl, rfl, Gs.breaks n HG.out R1 b2 HC.out hr, rfl⟩
            · have t2 : ¬ (4294967296 : Int) ≤ (r : Int) + y1 := by omega
              go_wp2_with fail
              go_round
              case rel => exact ⟨q', r + y1, rfl, rfl, HG.out.down HC.out (by omega)⟩
              case measure => simp [intOf]
          · have t1 : ¬ (4294967296 : Int) ≤ (q' : Int) + 1 := by omega
            obtain ⟨P, hP⟩ : ∃ k, (q' + 1) * y0 = k := ⟨_, rfl⟩
            have hP1 : P < 18446744073709551616 := by
              have : (q' + 1) * y0 ≤ 4294967295 * 4294967295 := Nat.mul_le_mul (by omega) (by omega)
              omega
            have e1 : ((q' : Int) + 1) * y0 = (P : Int) := by rw [← hP]; push_cast; rfl
            have t3 : 4294967296 * r + vl < P := by have := (g.test n).2 c; rw [hP] at this; exact this
            have t4 : 4294967296 * (r : Int) + (vl : Int) < (P : Int) := by omega
            have HG : Hid (Gs Y y1 R vl (q' + 1) r) := g
            have HC : Hid (R * 4294967296 + vl < (q' + 1) * Y) := c
            clear g c hP t3
            by_cases hr : 4294967296 ≤ r + y1
            · have t2 : (4294967296 : Int) ≤ (r : Int) + y1 := by omega
              go_wp2_with fail
              go_meet
              case rel => exact ⟨q', r + y1, rfl, rfl, Gs.breaks n HG.out R1 b2 HC.out hr, rfl⟩
            · have t2 : ¬ (4294967296 : Int) ≤ (r : Int) + y1 := by omega
              go_wp2_with fail
              go_round
              case rel => exact ⟨q', r + y1, rfl, rfl, HG.out.down HC.out (by omega)⟩
              case measure => simp [intOf]
        · have F := g.fits R1 b2 c
          have qb := F.1
          have t1 : ¬ (4294967296 : Int) ≤ (q : Int) := by omega
          obtain ⟨P, hP⟩ : ∃ k, q * y0 = k := ⟨_, rfl⟩
          have hP1 : P < 18446744073709551616 := by
            have : q * y0 ≤ 4294967295 * 4294967295 := Nat.mul_le_mul (by omega) (by omega)
            omega
          have e1 : (q : Int) * y0 = (P : Int) := by rw [← hP]; push_cast; rfl
          have t3 : ¬ 4294967296 * r + vl < P := by have := mt (g.test n).1 c; rw [hP] at this; exact this
          have t4 : ¬ 4294967296 * (r : Int) + (vl : Int) < (P : Int) := by omega
          have HF : Hid (Fits Y R vl q) := F
          clear g c hP t3 F
          go_wp2_with fail
          go_meet
          case rel => exact ⟨q, r, rfl, rfl, HF.out, rfl⟩
    case rest =>
      obtain ⟨q5, r5, rfl, rfl, F3, rfl⟩ := hcut
      obtain ⟨p5, hp5⟩ : ∃ k, q5 * Y = k := ⟨_, rfl⟩
      obtain ⟨S, hS⟩ : ∃ k, R * 4294967296 + vl - q5 * Y = k := ⟨_, rfl⟩
      have S1 : S < Y := by rw [← hS]; exact F3.rest
      obtain ⟨a1, ha1⟩ : ∃ k, R * 4294967296 % 18446744073709551616 = k := ⟨_, rfl⟩
      obtain ⟨a2, ha2⟩ : ∃ k, (a1 + vl) % 18446744073709551616 = k := ⟨_, rfl⟩
      obtain ⟨a3, ha3⟩ : ∃ k, p5 % 18446744073709551616 = k := ⟨_, rfl⟩
      have F4 := F3.2.1
      rw [hp5] at hS F4
      have m1 : IntKind.u64.wrap ((R : Int) * 4294967296) = (a1 : Int) := by rw [IntKind.wrap_u64]; omega
      have m2 : IntKind.u64.wrap ((a1 : Int) + vl) = (a2 : Int) := by rw [IntKind.wrap_u64]; omega
      have m3 : IntKind.u64.wrap ((q5 : Int) * Y) = (a3 : Int) := by rw [show (q5 : Int) * Y = (p5 : Int) by rw [← hp5]; push_cast; rfl, IntKind.wrap_u64]; omega
      have m4 : IntKind.u64.wrap ((a2 : Int) - a3) = (S : Int) := by rw [IntKind.wrap_u64]; omega
      have hend : S / 2 ^ s = (hi * 18446744073709551616 + lo) % y := by
        have e := two_digits HF1.out (by rw [HR.out]; exact F3)
        rw [HR.out, hp5, hS, ← HV.out, ← HU.out, ← HY.out] at e
        rw [← e, unshifted]
      have HE : Hid (S / 2 ^ s = (hi * 18446744073709551616 + lo) % y) := hend
      clear hS hp5 ha1 ha2 ha3 F3 F4 hend
      go_wp2
      refine bodyPost_ret (v := .tuple #[.int .u64 (IntKind.u64.wrap (IntKind.u64.wrap ((q1 : Int) * 4294967296) + q5)), .int .u64 ((S : Int) / 2 ^ s)]) ?_ rfl ⟨⟨IntKind.u64.wrap (IntKind.u64.wrap ((q1 : Int) * 4294967296) + q5), ?_⟩, Below.refl _ _⟩
      · simp [results, Try.f28, go_sem]
      · rw [← HE.out, show (S : Int) / 2 ^ s = ((S / 2 ^ s : Nat) : Int) by push_cast; rfl]

theorem div64_any (hi lo y : Nat) (hh : hi < y) (hy1 : y < 18446744073709551616) (hl : lo < 18446744073709551616) (w : World) :
    Calls Try.prog 28 #[.int .u64 (hi : Int), .int .u64 (lo : Int), .int .u64 (y : Int)] w fun e w' => (∃ q : Int, e = .returned (.tuple #[.int .u64 q, .int .u64 (((hi * 18446744073709551616 + lo) % y : Nat) : Int)])) ∧ Below w.heap.size w w' := by
  cases hi with
  | zero =>
    rw [Nat.zero_mul, Nat.zero_add]
    exact div64_low lo y hh hy1 hl w
  | succ h => exact div64_high (h + 1) lo y hh (by omega) hy1 hl w
end Go.Proofs.Yteplmnnpmekngab
