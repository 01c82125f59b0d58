/-
  What Rest of the reference does.
-/
import Derived.Test.YtfcnljdededdjaaRest
import Derived.Test.YtfcnljdededdjaaAdd
namespace Go.Proofs.Ytfcnljdededdjaa
open Go.RowKit Go.Shelf

theorem pw_two (k : Nat) : pw k = 2 ^ (32 * k) := by
  induction k with
  | zero => rfl
  | succ k ih => rw [show 32 * (k + 1) = 32 + 32 * k by omega, Nat.pow_add, ← ih, show k + 1 = 1 + k by omega, pw_add]; rfl
theorem val_drop_get (xs : List Nat) (p : Nat) (h : p < xs.length) : val (xs.drop p) = xs[p]?.getD 0 + 4294967296 * val (xs.drop (p + 1)) := by
  rw [List.drop_eq_getElem_cons h, List.getElem?_eq_getElem h]; rfl
/-- A number's bit is its word's. -/
theorem val_bit {xs : List Nat} (ox : okw xs) (p s : Nat) (h : p < xs.length) (hs : s < 32) : val xs / 2 ^ (32 * p + s) % 2 = xs[p]?.getD 0 / 2 ^ s % 2 := by
  have h1 := val_split xs p (by omega)
  have h2 := val_lt (okw_take ox p)
  rw [List.length_take, Nat.min_eq_left (by omega)] at h2
  have e : val xs / 2 ^ (32 * p + s) = val (xs.drop p) / 2 ^ s := by
    rw [Nat.pow_add, ← Nat.div_div_eq_div_mul, ← pw_two, h1, Nat.add_mul_div_left _ _ (pw_pos p), Nat.div_eq_of_lt h2, Nat.zero_add]
  rw [e, val_drop_get xs p h]
  have e2 : (4294967296 : Nat) = 2 ^ s * 2 ^ (32 - s) := by rw [← Nat.pow_add, show s + (32 - s) = 32 by omega]
  rw [e2, Nat.mul_assoc, Nat.add_mul_div_left _ _ (Nat.two_pow_pos s)]
  have e3 : (2 : Nat) ^ (32 - s) = 2 * 2 ^ (31 - s) := by rw [show 32 - s = 1 + (31 - s) by omega, Nat.pow_add]
  rw [e3, Nat.mul_assoc, Nat.add_mul_mod_self_left]
theorem half_step (V i : Nat) : V / 2 ^ i = 2 * (V / 2 ^ (i + 1)) + V / 2 ^ i % 2 := by
  rw [Nat.pow_succ, ← Nat.div_div_eq_div_mul]; omega
theorem rest_step {V i m r b : Nat} (hr : r < m) (e : V / 2 ^ (i + 1) % m = r) (hb : V / 2 ^ i % 2 = b) : V / 2 ^ i % m = if m ≤ 2 * r + b then 2 * r + b - m else 2 * r + b := by
  have h := half_step V i
  rw [hb] at h
  have hb2 : b < 2 := by rw [← hb]; exact Nat.mod_lt _ (by decide)
  have e2 : (2 * (V / 2 ^ (i + 1)) + b) % m = (2 * r + b) % m := by
    rw [← e, Nat.add_mod (2 * (V / 2 ^ (i + 1) % m)), Nat.mul_mod 2 (V / 2 ^ (i + 1) % m), Nat.mod_mod, ← Nat.mul_mod, ← Nat.add_mod]
  rw [h, e2]
  split
  · rw [Nat.mod_eq_sub_mod (by omega), Nat.mod_eq_of_lt (by omega)]
  · exact Nat.mod_eq_of_lt (by omega)

theorem and_one_u32 (x : Int) (h0 : 0 ≤ x) (h1 : x < 4294967296) : bits BinOp.and IntKind.u32 x 1 = x % 2 := by
  have h := bits_mask .u32 32 (by decide) (fun n h0 h1 => by rw [IntKind.wrap_u32]; omega) 1 (by decide) x h0 (by omega)
  simpa using h

theorem refRest_arg (neg : Bool) (a : Option Addr) (n cap : Nat) (m : Int) (w : World) (hm : m < 1 ∨ 4611686018427387904 < m) :
    Calls Try.prog 28 #[.agg #[.bool neg, .slice a n cap], .int .i64 m] w fun e w' => e = .returned (.tuple #[.int .i64 0, .int .i64 1]) ∧ Below w.heap.size w w' := by
  go_enter Try.func28, Try.ntmps28
  rcases Int.lt_or_le m 1 with h | h
  · have t1 : m < 1 := h
    go_wp2
    refine bodyPost_ret (v := .tuple #[.int .i64 0, .int .i64 1]) ?_ rfl ⟨rfl, below_alloc' _ _⟩
    simp [results, Try.f28, go_sem]
  · have t1 : ¬ m < 1 := by omega
    have t2 : 4611686018427387904 < m := by omega
    clear hm h
    go_wp2
    refine bodyPost_ret (v := .tuple #[.int .i64 0, .int .i64 1]) ?_ rfl ⟨rfl, below_alloc' _ _⟩
    simp [results, Try.f28, go_sem]

set_option maxRecDepth 100000 in
set_option maxHeartbeats 2000000 in
theorem refRest_some (neg : Bool) (a : Option Addr) (n cap : Nat) (xs : List Nat) (m : Nat) (w : World) (h : Sl .u32 w (.slice a n cap) xs) (ox : okw xs) (hbig : xs.length ≤ 1000000) (m1 : 1 ≤ m) (m2 : m ≤ 4611686018427387904) :
    Calls Try.prog 28 #[.agg #[.bool neg, .slice a n cap], .int .i64 (m : Int)] w fun e w' => e = .returned (.tuple #[.int .i64 (zv neg (val xs) % (m : Int)), .int .i64 0]) ∧ Below w.heap.size w w' := by
  have t1 : ¬ (m : Int) < 1 := by omega
  have t2 : ¬ (4611686018427387904 : Int) < m := by omega
  have hb : Below w.heap.size w (w.alloc (.cells #[.bool neg, .slice a n cap] 24)) := below_alloc' _ _
  have hn := h.len
  subst hn
  obtain ⟨b, off, ha, sx⟩ : ∃ b off, (0 < xs.length → a = some ⟨b, off, none⟩ ∧ b < w.heap.size) ∧ Seg .u32 w b off xs := by
    obtain ⟨ax', cx', ex, _, hx⟩ := h
    injection ex with ex1 ex2 ex3
    subst ex1; subst ex3
    by_cases h0 : xs = []
    · subst h0
      exact ⟨0, 0, fun h => absurd h (by simp), fun j h => absurd h (by simp)⟩
    · obtain ⟨b, off, e1, sx⟩ := hx h0
      exact ⟨b, off, fun _ => ⟨e1, sx.lt h0⟩, sx⟩
  have c0 := Box2.new w neg a xs.length cap 24
  have k0 := c0.c0
  have k1 := c0.c1
  go_enter Try.func28, Try.ntmps28
  go_wp2_with fail
  obtain ⟨w1, hW1⟩ : ∃ w1, w.alloc (.cells #[.bool neg, .slice a xs.length cap] 24) = w1 := ⟨_, rfl⟩
  rw [hW1] at hb c0 k0 k1 ⊢
  clear hW1
  go_loop [6, 7] (fun r i => ∃ j r' : Nat, i = .int .i64 ((j : Int) - 1) ∧ r = .int .u64 (r' : Int) ∧ j ≤ 32 * xs.length ∧ r' < m ∧ val xs / 2 ^ j % m = r') (fun _ i => (intOf i + 1).toNat)
  case atStart =>
    refine ⟨32 * xs.length, 0, ?_, rfl, Nat.le_refl _, by omega, ?_⟩
    · simp
    · rw [← pw_two, Nat.div_eq_of_lt (val_lt ox), Nat.zero_mod]
  case round =>
    obtain ⟨j, r, rfl, rfl, hj, hr, hv⟩ := hrel
    cases j with
    | zero =>
      rw [show ((0 : Nat) : Int) - 1 = -1 from rfl]
      simp only [Nat.pow_zero, Nat.div_one] at hv
      have HV : Hid (val xs % m = r) := hv
      clear hv ha sx h
      cases neg with
      | false =>
        go_wp2
        refine bodyPost_ret (v := .tuple #[.int .i64 (r : Int), .int .i64 0]) ?_ rfl ⟨?_, hb⟩
        · simp [results, Try.f28, go_sem]
        · rw [show zv false (val xs) = (val xs : Int) from rfl, ← HV.out, Int.natCast_emod]
      | true =>
        by_cases h0 : r = 0
        · subst h0
          go_wp2
          refine bodyPost_ret (v := .tuple #[.int .i64 0, .int .i64 0]) ?_ rfl ⟨?_, hb⟩
          · simp [results, Try.f28, go_sem]
          · rw [show zv true (val xs) = -(val xs : Int) from rfl, neg_mod_zero HV.out]
        · have t3 : (0 : Int) < r := by omega
          have t4 : (r : Int) ≤ m := by omega
          go_wp2
          refine bodyPost_ret (v := .tuple #[.int .i64 ((m : Int) - r), .int .i64 0]) ?_ rfl ⟨?_, hb⟩
          · simp [results, Try.f28, go_sem]
          · rw [show zv true (val xs) = -(val xs : Int) from rfl, neg_mod_pos HV.out h0 hr]
    | succ i =>
      obtain ⟨p, s, hi, hs⟩ : ∃ p s, i = 32 * p + s ∧ s < 32 := ⟨i / 32, i % 32, by omega, by omega⟩
      have hp : p < xs.length := by omega
      obtain ⟨e1, hlt⟩ := ha (by omega)
      have hc := (sx.below hb hlt) p hp
      have i1 : ((i + 1 : Nat) : Int) - 1 = (i : Int) := by omega
      rw [i1]
      have e2 : (i : Int) / 32 = (p : Int) := by omega
      have e3 : (i : Int) % 32 = (s : Int) := by omega
      have e4 : i / 32 = p := by omega
      have hx1 := okw_get ox p
      have HV : Hid (val xs / 2 ^ (i + 1) % m = r) := hv
      have HB := val_bit ox p s hp hs
      rw [← hi] at HB
      obtain ⟨x, hx⟩ : ∃ x, xs[p]?.getD 0 = x := ⟨_, rfl⟩
      rw [hx] at hc HB hx1
      have HB' : Hid (val xs / 2 ^ i % 2 = x / 2 ^ s % 2) := HB
      clear hv hi HB hx i1
      obtain ⟨y, hy⟩ : ∃ k, x / 2 ^ s = k := ⟨_, rfl⟩
      rw [hy] at HB'
      have hy1 : y < 4294967296 := by rw [← hy]; exact Nat.lt_of_le_of_lt (Nat.div_le_self _ _) hx1
      have e5 : (x : Int) / 2 ^ s = (y : Int) := by rw [← hy]; push_cast; rfl
      obtain ⟨c, hc2⟩ : ∃ k, y % 2 = k := ⟨_, rfl⟩
      have e6 : bits BinOp.and IntKind.u32 (y : Int) 1 = (c : Int) := by rw [and_one_u32 _ (by omega) (by omega)]; omega
      have hc3 : c < 2 := by omega
      rw [hc2] at HB'
      have st := rest_step hr HV.out HB'.out
      clear hy hc2
      by_cases hge : m ≤ 2 * r + c
      · rw [if_pos hge] at st
        have HS : Hid (val xs / 2 ^ i % m = 2 * r + c - m) := st
        have t5 : (m : Int) ≤ 2 * (r : Int) + c := by omega
        clear st HV HB'
        go_wp2_with fail
        go_round
        case rel =>
          refine ⟨i, 2 * r + c - m, rfl, ?_, by omega, by omega, HS.out⟩
          congr 1; omega
        case measure => simp [intOf]
      · rw [if_neg hge] at st
        have HS : Hid (val xs / 2 ^ i % m = 2 * r + c) := st
        have t5 : ¬ (m : Int) ≤ 2 * (r : Int) + c := by omega
        clear st HV HB'
        go_wp2_with fail
        go_round
        case rel => exact ⟨i, 2 * r + c, rfl, by push_cast; rfl, by omega, by omega, HS.out⟩
        case measure => simp [intOf]

/-- Rest of the reference and Rest of package whole: the same answers. -/
theorem rest_both (neg : Bool) (a : Option Addr) (n cap : Nat) (xs : List Nat) (m : Int) (ox : okw xs) (hbig : xs.length ≤ 1000000) : ∃ r k : Int, ∀ w, Sl .u32 w (.slice a n cap) xs →
    (Calls Try.prog 23 #[.agg #[.bool neg, .slice a n cap], .int .i64 m] w fun e w' => e = .returned (.tuple #[.int .i64 r, .int .i64 k]) ∧ Below w.heap.size w w') ∧
    (Calls Try.prog 28 #[.agg #[.bool neg, .slice a n cap], .int .i64 m] w fun e w' => e = .returned (.tuple #[.int .i64 r, .int .i64 k]) ∧ Below w.heap.size w w') := by
  by_cases h : m < 1 ∨ 4611686018427387904 < m
  · exact ⟨0, 1, fun w _ => ⟨rest_arg neg a n cap m w h, refRest_arg neg a n cap m w h⟩⟩
  · obtain ⟨k, rfl⟩ : ∃ k : Nat, m = (k : Int) := ⟨m.toNat, by omega⟩
    exact ⟨zv neg (val xs) % (k : Int), 0, fun w hs => ⟨rest_some neg a n cap xs k w hs ox hbig (by omega) (by omega), refRest_some neg a n cap xs k w hs ox hbig (by omega) (by omega)⟩⟩
end Go.Proofs.Ytfcnljdededdjaa
