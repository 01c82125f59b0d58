/-
  What guessWord does.
-/
import Derived.Deep.CutBlock
import Derived.Test.YteplmnnpmekngabSums
namespace Go.Proofs.Yteplmnnpmekngab
open Go.RowKit

/-- The greatest word that fits: Y the divisor's two highest words, u and d the three highest words of what is divided. -/
def Most (Y u d q : Nat) : Prop := q < 4294967296 ∧ q * Y ≤ u * 4294967296 + d ∧ (q + 1 < 4294967296 → u * 4294967296 + d < (q + 1) * Y)
/-- .. while it is sought. -/
structure Sk (Y y1 u d q r : Nat) : Prop where
  sum : q * y1 + r = u
  rlt : r < 4294967296
  big : q + 1 < 4294967296 → u * 4294967296 + d < (q + 1) * Y
  top : 4294967296 ≤ q → q = 4294967296 ∨ r + y1 < 4294967296
theorem Sk.start {Y y1 y0 u d : Nat} (n : Norm Y y1 y0) (hu : u ≤ Y) (hd : d < 4294967296) : Sk Y y1 u d (u / y1) (u % y1) := by
  have g := Gs.start (u := u) n hd
  refine ⟨g.sum, g.rlt, fun _ => g.big, fun hq => ?_⟩
  have s := g.sum
  have e := n.eq
  have h0 := n.lo
  have h1 := n.ge
  obtain ⟨q, hq'⟩ : ∃ q, u / y1 = q := ⟨_, rfl⟩
  obtain ⟨r, hr'⟩ : ∃ r, u % y1 = r := ⟨_, rfl⟩
  rw [hq', hr'] at s
  rw [hq'] at hq ⊢
  rw [hr']
  rcases Nat.eq_or_lt_of_le hq with h | h
  · exact Or.inl h.symm
  · right
    have : 4294967297 * y1 ≤ q * y1 := Nat.mul_le_mul_right _ h
    generalize q * y1 = A at s this
    omega
theorem Sk.fits {Y y1 y0 u d q r : Nat} (n : Norm Y y1 y0) (g : Sk Y y1 u d q r) (h1 : q < 4294967296) (h : q * y0 ≤ r * 4294967296 + d) : Most Y u d q := by
  refine ⟨h1, ?_, g.big⟩
  rw [mul_norm n q]
  have s := g.sum
  generalize q * y1 = A at s ⊢
  generalize q * y0 = B at h ⊢
  omega
theorem arith_great {u d A r B : Nat} (s : A + r = u) (h : r * 4294967296 + d < B) : u * 4294967296 + d < A * 4294967296 + B := by
  subst s
  rw [Nat.add_mul, Nat.add_assoc]
  exact Nat.add_lt_add_left h _
theorem Sk.great {Y y1 y0 u d q r : Nat} (n : Norm Y y1 y0) (g : Sk Y y1 u d (q + 1) r) (h : 4294967296 ≤ q + 1 ∨ r * 4294967296 + d < (q + 1) * y0) : q + 1 < 4294967296 → u * 4294967296 + d < (q + 1) * Y := fun hq => by
  rcases h with h | h
  · exact absurd hq (Nat.not_lt.2 h)
  · rw [mul_norm n (q + 1)]
    exact arith_great g.sum h
theorem Sk.down {Y y1 y0 u d q r : Nat} (n : Norm Y y1 y0) (g : Sk Y y1 u d (q + 1) r) (h : 4294967296 ≤ q + 1 ∨ r * 4294967296 + d < (q + 1) * y0) (hr : r + y1 < 4294967296) (hu : u ≤ Y) : Sk Y y1 u d q (r + y1) := by
  have s := g.sum
  rw [Nat.add_mul, Nat.one_mul] at s
  refine ⟨by omega, hr, g.great n h, fun hq => ?_⟩
  rcases Nat.eq_or_lt_of_le hq with h1 | h1
  · exact Or.inl h1.symm
  · right
    have e := n.eq
    have h0 := n.lo
    have : 4294967297 * y1 ≤ q * y1 := Nat.mul_le_mul_right _ h1
    have hge := n.ge
    generalize q * y1 = A at s this
    omega
theorem Sk.breaks {Y y1 y0 u d q r : Nat} (n : Norm Y y1 y0) (g : Sk Y y1 u d (q + 1) r) (h : 4294967296 ≤ q + 1 ∨ r * 4294967296 + d < (q + 1) * y0) (hr : 4294967296 ≤ r + y1) : Most Y u d q := by
  have hq : q < 4294967296 := by
    rcases Nat.lt_or_ge q 4294967296 with h1 | h1
    · exact h1
    · rcases g.top (by omega) with h2 | h2 <;> omega
  refine ⟨hq, ?_, g.great n h⟩
  have s := g.sum
  rw [Nat.add_mul, Nat.one_mul] at s
  rw [mul_norm n q]
  have h3 : q * y0 ≤ 4294967295 * 4294967295 := Nat.mul_le_mul (by omega) (by have := n.lo; omega)
  generalize q * y1 = A at s ⊢
  generalize q * y0 = B at h3 ⊢
  omega

set_option maxRecDepth 100000 in
set_option maxHeartbeats 2000000 in
theorem guess_any (g off bv ov m cp cv Y y1 y0 p2 p1 p0 : Nat) (w : World) (c2 : w.cell? ⟨g, off + (m + 2), none⟩ = some (.int .u32 (p2 : Int))) (c1 : w.cell? ⟨g, off + (m + 1), none⟩ = some (.int .u32 (p1 : Int))) (c0 : w.cell? ⟨g, off + m, none⟩ = some (.int .u32 (p0 : Int))) (d1 : w.cell? ⟨bv, ov + (m + 1), none⟩ = some (.int .u32 (y1 : Int))) (d0 : w.cell? ⟨bv, ov + m, none⟩ = some (.int .u32 (y0 : Int))) (n : Norm Y y1 y0) (h2 : p2 < 4294967296) (h1 : p1 < 4294967296) (h0 : p0 < 4294967296) (hu : p2 * 4294967296 + p1 ≤ Y) (hm : m ≤ 100000) :
    Calls Try.prog 45 #[.slice (some ⟨g, off, none⟩) (m + 3) cp, .slice (some ⟨bv, ov, none⟩) (m + 2) cv] w fun e w' => ∃ q : Nat, e = .returned (.int .u64 (q : Int)) ∧ Most Y (p2 * 4294967296 + p1) p0 q ∧ Below w.heap.size w w' := by
  have hor := or_join p2 p1 h2 h1
  obtain ⟨u, hu'⟩ : ∃ u, p2 * 4294967296 + p1 = u := ⟨_, rfl⟩
  have eu : (p2 : Int) * 4294967296 + p1 = (u : Int) := by omega
  rw [eu] at hor
  rw [hu'] at hu ⊢
  have yl := n.lt
  have zl := n.lo
  have yg := n.ge
  have e1 : (((m + 2 : Nat) : Int) - 1) = ((m + 1 : Nat) : Int) := by omega
  have e2 : (((m + 2 : Nat) : Int) - 2) = (m : Int) := by omega
  go_enter Try.func45, Try.ntmps45
  go_wp2_with fail
  go_region
  go_wp2_with fail
  go_region
  have HS : Hid (Sk Y y1 u p0 (u / y1) (u % y1)) := Sk.start n hu h0
  have gd : ¬ (y1 : Int) = 0 := by omega
  have gl : ¬ (y1 : Int) ≤ 0 := by omega
  obtain ⟨q0, hq0⟩ : ∃ k, u / y1 = k := ⟨_, rfl⟩
  obtain ⟨r0, hr0⟩ : ∃ k, u % y1 = k := ⟨_, rfl⟩
  have g1 : IntKind.u64.wrap ((u : Int) / y1) = (q0 : Int) := by
    rw [show (u : Int) / y1 = (q0 : Int) by rw [← hq0]; push_cast; rfl]
    exact wrap_cast _ (by rw [← hq0]; exact Nat.lt_of_le_of_lt (Nat.div_le_self _ _) (by omega))
  have g2 : (u : Int) % y1 = (r0 : Int) := by rw [← hr0]; push_cast; rfl
  rw [hq0, hr0] at HS
  have hq18 : q0 < 18446744073709551616 := by rw [← hq0]; exact Nat.lt_of_le_of_lt (Nat.div_le_self _ _) (by omega)
  clear hq0 hr0 hor eu hu'
  go_wp2_with fail
  go_region
  go_wp2_with fail
  clear g1
  have hB : Below w.heap.size w w.drew.drew.drew := (Below.refl _ _).drew.drew.drew
  go_loopw [9, 10] (fun a b W => ∃ q r : Nat, a = .int .u64 (q : Int) ∧ b = .int .u64 (r : Int) ∧ Sk Y y1 u p0 q r ∧ q < 18446744073709551616 ∧ W = w.drew.drew.drew) (fun a _ _ => (intOf a).toNat)
  case atStart => exact ⟨q0, r0, rfl, by rw [g2], HS.out, hq18, rfl⟩
  case round =>
    clear HS hq18 g2
    obtain ⟨q, r, rfl, rfl, g, hq18, rfl⟩ := hrel
    have hrl := g.rlt
    have hor := or_join r p0 hrl h0
    have G : Hid (Sk Y y1 u p0 q r) := g
    clear g
    by_cases cA : 4294967296 ≤ q
    · obtain ⟨q', rfl⟩ : ∃ q', q = q' + 1 := ⟨q - 1, by omega⟩
      have t1 : (4294967295 : Int) < (q' : Int) + 1 := by omega
      have HA : Hid (4294967296 ≤ q' + 1) := cA
      clear cA
      by_cases hr : 4294967296 ≤ r + y1
      · have t2 : (4294967295 : Int) < (r : Int) + y1 := by omega
        have HF : Hid (Most Y u p0 q') := Sk.breaks n G.out (Or.inl HA.out) hr
        clear hr
        go_wp2
        go_ret
        exact ⟨q', rfl, HF.out, hB⟩
      · have t2 : ¬ (4294967295 : Int) < (r : Int) + y1 := by omega
        have HF : Hid (Sk Y y1 u p0 q' (r + y1)) := Sk.down n G.out (Or.inl HA.out) (by omega) hu
        clear hr
        go_wp2_with fail
        go_roundw
        case rel => exact ⟨q', r + y1, rfl, by go_num, HF.out, by omega, trivial⟩
        case measure => simp [intOf]
    · have t1 : ¬ (4294967295 : Int) < (q : Int) := by omega
      obtain ⟨P, hP⟩ : ∃ k, q * y0 = k := ⟨_, rfl⟩
      have hP1 : P < 18446744073709551616 := by
        have : q * y0 ≤ 4294967295 * 4294967295 := Nat.mul_le_mul (by omega) (by omega)
        omega
      have e3 : (q : Int) * y0 = (P : Int) := by rw [← hP]; push_cast; rfl
      by_cases cB : r * 4294967296 + p0 < P
      · have HB : Hid (r * 4294967296 + p0 < q * y0) := (by show _ < _; rw [hP]; exact cB)
        have t3 : (r : Int) * 4294967296 + p0 < (P : Int) := by omega
        have q0' : 0 < q := Nat.pos_of_ne_zero fun h => by subst h; simp at hP; omega
        obtain ⟨q', rfl⟩ : ∃ q', q = q' + 1 := ⟨q - 1, by omega⟩
        have e4 : ((q' : Int) + 1) * y0 = (P : Int) := by rw [← hP]; push_cast; rfl
        have t4 : ¬ (4294967295 : Int) < (q' : Int) + 1 := by omega
        clear cB hP e3 cA t1 q0'
        by_cases hr : 4294967296 ≤ r + y1
        · have t2 : (4294967295 : Int) < (r : Int) + y1 := by omega
          have HF : Hid (Most Y u p0 q') := Sk.breaks n G.out (Or.inr HB.out) hr
          clear hr
          go_wp2
          go_ret
          exact ⟨q', rfl, HF.out, hB⟩
        · have t2 : ¬ (4294967295 : Int) < (r : Int) + y1 := by omega
          have HF : Hid (Sk Y y1 u p0 q' (r + y1)) := Sk.down n G.out (Or.inr HB.out) (by omega) hu
          clear hr
          go_wp2_with fail
          go_roundw
          case rel => exact ⟨q', r + y1, rfl, by go_num, HF.out, by omega, trivial⟩
          case measure => simp [intOf]
      · have HF : Hid (Most Y u p0 q) := Sk.fits n G.out (by omega) (by rw [hP]; omega)
        have t3 : ¬ (r : Int) * 4294967296 + p0 < (P : Int) := by omega
        clear cB hP cA
        go_wp2
        go_ret
        exact ⟨q, rfl, HF.out, hB⟩
end Go.Proofs.Yteplmnnpmekngab
