/-
  Sets of bits in words; what can be reached. No program.
-/
import Derived.Test.YtbnmnmbfdfgohaaDoorSmMath
import Derived.Laws.Bits64b
import Derived.Laws.BitsAllLaws
import Derived.Lib.TrailingZeros
namespace Go.Proofs.YtbnmnmbfdfgohaaDoor
open Go.RowKit Go.WideShapes

/-- The numbers below n that f tells. -/
def nbs (f : Nat → Bool) (n : Nat) : List Int := ((List.range n).filter f).map fun k : Nat => (k : Int)
theorem nbs_succ (f : Nat → Bool) (n : Nat) : nbs f (n + 1) = nbs f n ++ (if f n then [(n : Int)] else []) := by
  unfold nbs
  rw [List.range_succ, List.filter_append, List.map_append]
  congr 1
  cases h : f n <;> simp [h]
theorem nbs_ext {f g : Nat → Bool} {n : Nat} (h : ∀ k, k < n → f k = g k) : nbs f n = nbs g n := by
  unfold nbs
  congr 1
  apply List.filter_congr
  intro k hk
  exact h k (List.mem_range.1 hk)
theorem nbs_le (f : Nat → Bool) (n : Nat) : (nbs f n).length ≤ n := by
  unfold nbs
  rw [List.length_map]
  exact Nat.le_trans (List.length_filter_le _ _) (by simp)
theorem nbs_mem {f : Nat → Bool} {n : Nat} {x : Int} : x ∈ nbs f n ↔ ∃ k : Nat, x = (k : Int) ∧ k < n ∧ f k = true := by
  unfold nbs
  rw [List.mem_map]
  constructor
  · rintro ⟨k, hk, rfl⟩
    rw [List.mem_filter, List.mem_range] at hk
    exact ⟨k, rfl, hk.1, hk.2⟩
  · rintro ⟨k, rfl, h1, h2⟩
    exact ⟨k, by rw [List.mem_filter, List.mem_range]; exact ⟨h1, h2⟩, rfl⟩
theorem nbs_add (f : Nat → Bool) (a b : Nat) : nbs f (a + b) = nbs f a ++ (nbs (fun i => f (a + i)) b).map (fun x => (a : Int) + x) := by
  induction b with
  | zero => simp [nbs]
  | succ b ih =>
    rw [← Nat.add_assoc, nbs_succ, ih, nbs_succ, List.map_append, List.append_assoc]
    congr 2
    cases f (a + b) <;> simp
theorem nbs_cut {f : Nat → Bool} {n m : Nat} (hm : n ≤ m) (h : ∀ k, n ≤ k → f k = false) : nbs f m = nbs f n := by
  obtain ⟨d, rfl⟩ : ∃ d, m = n + d := ⟨m - n, by omega⟩
  induction d with
  | zero => rfl
  | succ d ih => rw [← Nat.add_assoc, nbs_succ, ih (by omega), h (n + d) (by omega)]; simp
/-- One number more, or one less. -/
theorem nbs_drop (f : Nat → Bool) (n k : Nat) (hk : k < n) (h : f k = true) : (nbs (fun j => f j && decide (j ≠ k)) n).length + 1 = (nbs f n).length := by
  induction n with
  | zero => omega
  | succ n ih =>
    rw [nbs_succ, nbs_succ, List.length_append, List.length_append]
    by_cases e : n = k
    · subst e
      rw [h, nbs_ext (g := f) (fun j hj => by simp; omega)]
      simp
    · have := ih (by omega)
      simp only [ne_eq, decide_not] at this ⊢
      cases f n <;> simp [e] <;> omega
theorem filter_first (p q : Nat → Bool) (t n : Nat) (ht : t < n) (h1 : p t = true) (h2 : ∀ j, j < t → p j = false) (h3 : ∀ j, q j = (p j && decide (j ≠ t))) : (List.range n).filter p = t :: (List.range n).filter q := by
  obtain ⟨d, rfl⟩ : ∃ d, n = t + 1 + d := ⟨n - t - 1, by omega⟩
  clear ht
  induction d with
  | zero =>
    have e1 : (List.range t).filter p = [] := List.filter_eq_nil_iff.2 (fun j hj => by rw [h2 j (List.mem_range.1 hj)]; simp)
    have e2 : (List.range t).filter q = [] := List.filter_eq_nil_iff.2 (fun j hj => by rw [h3, h2 j (List.mem_range.1 hj)]; simp)
    rw [Nat.add_zero, List.range_succ, List.filter_append, List.filter_append, e1, e2]
    simp [h1, h3]
  | succ d ih =>
    rw [← Nat.add_assoc, List.range_succ, List.filter_append, List.filter_append, ih]
    have : q (t + 1 + d) = p (t + 1 + d) := by rw [h3]; simp; omega
    simp [List.filter_cons, this]
/-- A word without its lowest bit. -/
theorem word_first (x : Nat) (h0 : x ≠ 0) (hx : x < 18446744073709551616) :
    Lib.ctz 64 x < 64 ∧ nbs x.testBit 64 = (Lib.ctz 64 x : Int) :: nbs (x &&& (x - 1)).testBit 64 ∧ x &&& (x - 1) < 18446744073709551616 ∧ x &&& (x - 1) < x := by
  obtain ⟨m, hm, ht⟩ := Lib.ctzFrom_spec 64 x (by omega) hx
  have e : Lib.ctz 64 x = Lib.ctzFrom 64 x := by simp [Lib.ctz, h0]
  rw [e]
  generalize Lib.ctzFrom 64 x = t at *
  have hp : 0 < 2 ^ t := Nat.two_pow_pos t
  have e1 : x - 1 = 2 ^ t * (2 * m) + (2 ^ t - 1) := by
    have h1 : x = 2 ^ t * (2 * m) + 2 ^ t := by rw [hm, Nat.mul_add, Nat.mul_one]
    omega
  have hbit : ∀ j, x.testBit j = (decide (t ≤ j) && (2 * m + 1).testBit (j - t)) := fun j => by
    rw [hm, Nat.mul_comm (2 ^ t), Nat.testBit_mul_two_pow]
  have hb2 : ∀ j, (x &&& (x - 1)).testBit j = (x.testBit j && decide (j ≠ t)) := by
    intro j
    rw [Nat.testBit_and, hbit j, e1, Nat.testBit_two_pow_mul_add _ (by omega)]
    by_cases hj : j < t
    · simp [Nat.not_le.2 hj]
    · rw [if_neg hj]
      by_cases ej : j = t
      · subst ej
        simp [Nat.testBit_zero]
      · obtain ⟨i, rfl⟩ : ∃ i, j = t + (i + 1) := ⟨j - t - 1, by omega⟩
        rw [show t + (i + 1) - t = i + 1 by omega, Nat.testBit_succ, Nat.testBit_succ, show (2 * m + 1) / 2 = m by omega, show 2 * m / 2 = m by omega]
        simp
  refine ⟨ht, ?_, ?_, ?_⟩
  · unfold nbs
    rw [filter_first x.testBit (x &&& (x - 1)).testBit t 64 ht (by rw [hbit]; simp [Nat.testBit_zero]) (fun j hj => by rw [hbit]; simp [Nat.not_le.2 hj]) hb2, List.map_cons]
  · exact Nat.lt_of_le_of_lt Nat.and_le_left hx
  · refine Nat.lt_of_le_of_ne Nat.and_le_left (fun e => ?_)
    have h1 := hb2 t
    rw [e] at h1
    have h2 : x.testBit t = true := by rw [hbit]; simp [Nat.testBit_zero]
    rw [h2] at h1
    simp at h1
theorem word_none : nbs (0 : Nat).testBit 64 = [] := by
  unfold nbs
  simp
/-- Words that hold the set f. -/
def Wf (W : Nat → Nat) (f : Nat → Bool) (m : Nat) : Prop := (∀ j, j < m → W j < 18446744073709551616 ∧ ∀ i, i < 64 → (W j).testBit i = f (j * 64 + i)) ∧ ∀ k, m * 64 ≤ k → f k = false
theorem Wf.zero (m : Nat) : Wf (fun _ => 0) (fun _ => false) m := ⟨fun j _ => ⟨by show 0 < _; omega, fun i _ => by simp⟩, fun _ _ => rfl⟩
def updN (W : Nat → Nat) (j v : Nat) : Nat → Nat := fun k => if k = j then v else W k
theorem pow64 {i : Nat} (h : i < 64) : 2 ^ i < 18446744073709551616 := by
  have := (Nat.pow_lt_pow_iff_right (by omega : 1 < 2)).2 h
  simpa using this
theorem Wf.put {W : Nat → Nat} {f : Nat → Bool} {m k : Nat} (h : Wf W f m) (hk : k < m * 64) : Wf (updN W (k / 64) (W (k / 64) ||| 2 ^ (k % 64))) (fun j => f j || decide (j = k)) m := by
  have hj : k / 64 < m := by omega
  have hlt := pow64 (show k % 64 < 64 by omega)
  refine ⟨fun j hm => ?_, fun j hj => by show (f j || decide (j = k)) = false; rw [h.2 j hj]; simp; omega⟩
  unfold updN
  by_cases e : j = k / 64
  · subst e
    rw [if_pos rfl]
    refine ⟨Nat.or_lt_two_pow (n := 64) (h.1 _ hj).1 hlt, fun i hi => ?_⟩
    rw [Nat.testBit_or, (h.1 _ hj).2 i hi, Nat.testBit_two_pow]
    congr 1
    rw [decide_eq_decide]
    omega
  · rw [if_neg e]
    refine ⟨(h.1 j hm).1, fun i hi => ?_⟩
    rw [(h.1 j hm).2 i hi]
    have : ¬ j * 64 + i = k := by omega
    simp [this]
theorem Wf.take {W : Nat → Nat} {f : Nat → Bool} {m k : Nat} (h : Wf W f m) (hk : k < m * 64) : Wf (updN W (k / 64) (W (k / 64) &&& (18446744073709551615 - 2 ^ (k % 64)))) (fun j => f j && decide (j ≠ k)) m := by
  have hj : k / 64 < m := by omega
  have hlt := pow64 (show k % 64 < 64 by omega)
  refine ⟨fun j hm => ?_, fun j hj => by show (f j && decide (j ≠ k)) = false; rw [h.2 j hj]; simp⟩
  unfold updN
  by_cases e : j = k / 64
  · subst e
    rw [if_pos rfl]
    refine ⟨Nat.lt_of_le_of_lt Nat.and_le_left (h.1 _ hj).1, fun i hi => ?_⟩
    have e2 : 18446744073709551615 - 2 ^ (k % 64) = 2 ^ 64 - (2 ^ (k % 64) + 1) := by omega
    rw [Nat.testBit_and, (h.1 _ hj).2 i hi, e2, Nat.testBit_two_pow_sub_succ (by omega), Nat.testBit_two_pow]
    congr 1
    by_cases e3 : k % 64 = i
    · have : ¬ (k / 64 * 64 + i ≠ k) := by omega
      simp [e3, this]
    · have : k / 64 * 64 + i ≠ k := by omega
      simp [e3, this, hi]
  · rw [if_neg e]
    refine ⟨(h.1 j hm).1, fun i hi => ?_⟩
    rw [(h.1 j hm).2 i hi]
    have : j * 64 + i ≠ k := by omega
    simp [this]
theorem and_pow (x i : Nat) : x &&& 2 ^ i = if x.testBit i then 2 ^ i else 0 := by
  apply Nat.eq_of_testBit_eq
  intro j
  rw [Nat.testBit_and, Nat.testBit_two_pow]
  by_cases e : i = j
  · subst e
    cases x.testBit i <;> simp
  · cases x.testBit i <;> simp [e]
theorem Wf.and {W : Nat → Nat} {f : Nat → Bool} {m k : Nat} (h : Wf W f m) (hk : k < m * 64) : (W (k / 64) &&& 2 ^ (k % 64) = 0) = (f k = false) := by
  have hj : k / 64 < m := by omega
  have h1 := (h.1 _ hj).2 (k % 64) (by omega)
  rw [show k / 64 * 64 + k % 64 = k by omega] at h1
  rw [← h1, and_pow]
  cases (W (k / 64)).testBit (k % 64) <;> simp
theorem Wf.nbs {W : Nat → Nat} {f : Nat → Bool} {m : Nat} (h : Wf W f m) (j : Nat) (hj : j < m) : nbs f ((j + 1) * 64) = nbs f (j * 64) ++ (nbs (W j).testBit 64).map (fun x => ((j * 64 : Nat) : Int) + x) := by
  rw [show (j + 1) * 64 = j * 64 + 64 by omega, nbs_add]
  congr 2
  exact nbs_ext (fun i hi => ((h.1 j hj).2 i hi).symm)

/-- What can be reached: from R, by the lists L, among T. -/
inductive Rch (T : Nat → Bool) (L : Nat → List Int) (R : List Int) : Nat → Prop
  | root {k : Nat} : T k = true → (k : Int) ∈ R → Rch T L R k
  | lead {j k : Nat} : Rch T L R j → T k = true → (k : Int) ∈ L j → Rch T L R k
theorem Rch.taken {T : Nat → Bool} {L : Nat → List Int} {R : List Int} {k : Nat} (h : Rch T L R k) : T k = true := by cases h <;> assumption
/-- The way: what is left, what is reached, the stack. -/
structure Wy where
  lf : Nat → Bool
  rf : Nat → Bool
  st : List Int
def Wy.one (y : Wy) (i : Int) : Wy := if 0 ≤ i ∧ y.lf i.toNat = true then ⟨fun k => y.lf k && decide (k ≠ i.toNat), fun k => y.rf k || decide (k = i.toNat), y.st ++ [i]⟩ else y
def Wy.all (y : Wy) (l : List Int) : Wy := l.foldl Wy.one y
theorem Wy.all_snoc (y : Wy) (l : List Int) (i : Int) : y.all (l ++ [i]) = (y.all l).one i := by simp [Wy.all]
structure WyR (y : Wy) (l : List Int) (z : Wy) : Prop where
  lf : ∀ k, z.lf k = true ↔ y.lf k = true ∧ (k : Int) ∉ l
  rf : ∀ k, z.rf k = true ↔ y.rf k = true ∨ (y.lf k = true ∧ (k : Int) ∈ l)
  st : ∀ x, x ∈ z.st ↔ x ∈ y.st ∨ ∃ k : Nat, x = (k : Int) ∧ y.lf k = true ∧ (k : Int) ∈ l
  num : ∀ n, (∀ k, y.lf k = true → k < n) → (nbs z.lf n).length + z.st.length = (nbs y.lf n).length + y.st.length
theorem WyR.snoc {y z : Wy} {l : List Int} (ih : WyR y l z) (i : Int) : WyR y (l ++ [i]) (z.one i) := by
  unfold Wy.one
  split
  · rename_i hc
    obtain ⟨h0, h1⟩ := hc
    obtain ⟨k0, rfl⟩ : ∃ k0 : Nat, i = (k0 : Int) := ⟨i.toNat, by omega⟩
    simp only [Int.toNat_natCast] at *
    have hy := (ih.lf k0).1 h1
    refine ⟨fun k => ?_, fun k => ?_, fun x => ?_, fun n hn => ?_⟩
    · simp only [Bool.and_eq_true, decide_eq_true_eq, ih.lf k, List.mem_append, List.mem_singleton, not_or]
      constructor
      · rintro ⟨⟨a, b⟩, c⟩; exact ⟨a, b, by omega⟩
      · rintro ⟨a, b, c⟩; exact ⟨⟨a, b⟩, by omega⟩
    · simp only [Bool.or_eq_true, decide_eq_true_eq, ih.rf k, List.mem_append, List.mem_singleton]
      constructor
      · rintro ((a | ⟨a, b⟩) | c)
        · exact Or.inl a
        · exact Or.inr ⟨a, Or.inl b⟩
        · exact Or.inr ⟨by rw [c]; exact hy.1, Or.inr (by rw [c])⟩
      · rintro (a | ⟨a, b | b⟩)
        · exact Or.inl (Or.inl a)
        · exact Or.inl (Or.inr ⟨a, b⟩)
        · exact Or.inr (by omega)
    · simp only [List.mem_append, List.mem_singleton, ih.st x]
      constructor
      · rintro ((a | ⟨k, a, b, c⟩) | a)
        · exact Or.inl a
        · exact Or.inr ⟨k, a, b, Or.inl c⟩
        · exact Or.inr ⟨k0, a, hy.1, Or.inr rfl⟩
      · rintro (a | ⟨k, a, b, c | c⟩)
        · exact Or.inl (Or.inl a)
        · exact Or.inl (Or.inr ⟨k, a, b, c⟩)
        · exact Or.inr (by omega)
    · have h2 := ih.num n hn
      have h3 := nbs_drop z.lf n k0 (hn k0 hy.1) h1
      simp only [List.length_append, List.length_singleton]
      omega
  · rename_i hc
    have hno : ∀ k : Nat, (k : Int) = i → z.lf k = false := fun k e => by
      cases h : z.lf k with
      | false => rfl
      | true => exact absurd ⟨by omega, by rw [← e]; simpa using h⟩ hc
    have hyl : ∀ k : Nat, (k : Int) = i → y.lf k = true → (k : Int) ∈ l := fun k e h => by
      by_cases hm : (k : Int) ∈ l
      · exact hm
      · have := (ih.lf k).2 ⟨h, hm⟩
        rw [hno k e] at this
        cases this
    refine ⟨fun k => ?_, fun k => ?_, fun x => ?_, ih.num⟩
    · rw [ih.lf k, List.mem_append, List.mem_singleton, not_or]
      constructor
      · rintro ⟨a, b⟩; exact ⟨a, b, fun e => b (hyl k e a)⟩
      · rintro ⟨a, b, _⟩; exact ⟨a, b⟩
    · rw [ih.rf k, List.mem_append, List.mem_singleton]
      constructor
      · rintro (a | ⟨a, b⟩)
        · exact Or.inl a
        · exact Or.inr ⟨a, Or.inl b⟩
      · rintro (a | ⟨a, b | b⟩)
        · exact Or.inl a
        · exact Or.inr ⟨a, b⟩
        · exact Or.inr ⟨a, hyl k b a⟩
    · rw [ih.st x]
      constructor
      · rintro (a | ⟨k, a, b, c⟩)
        · exact Or.inl a
        · exact Or.inr ⟨k, a, b, List.mem_append_left _ c⟩
      · rintro (a | ⟨k, a, b, c⟩)
        · exact Or.inl a
        · rw [List.mem_append, List.mem_singleton] at c
          rcases c with c | c
          · exact Or.inr ⟨k, a, b, c⟩
          · exact Or.inr ⟨k, a, b, hyl k c b⟩
theorem Wy.all_go (y : Wy) : ∀ (l p : List Int) (z : Wy), WyR y p z → WyR y (p ++ l) (l.foldl Wy.one z)
  | [], p, z, h => by simpa using h
  | i :: l, p, z, h => by
    have := Wy.all_go y l (p ++ [i]) (z.one i) (h.snoc i)
    simpa using this
theorem Wy.all_is (y : Wy) (l : List Int) : WyR y l (y.all l) := Wy.all_go y l [] y ⟨fun k => by simp, fun k => by simp, fun x => by simp, fun n _ => rfl⟩
/-- How the way stands. -/
structure Dv (T : Nat → Bool) (L : Nat → List Int) (R : List Int) (y : Wy) : Prop where
  all : ∀ k, T k = true ↔ (y.lf k = true ∨ y.rf k = true)
  one : ∀ k, y.lf k = true → y.rf k = false
  rch : ∀ k, y.rf k = true → Rch T L R k
  st : ∀ x, x ∈ y.st → ∃ k : Nat, x = (k : Int) ∧ y.rf k = true
  clo : ∀ k, y.rf k = true → (k : Int) ∈ y.st ∨ ∀ j : Nat, T j = true → (j : Int) ∈ L k → y.rf j = true
  rts : ∀ j : Nat, T j = true → (j : Int) ∈ R → y.rf j = true
theorem Dv.begin {T : Nat → Bool} {L : Nat → List Int} {R : List Int} {y z : Wy} (h1 : ∀ k, y.lf k = T k) (h2 : ∀ k, y.rf k = false) (h3 : y.st = []) (h : WyR y R z) : Dv T L R z := by
  have hr : ∀ k, z.rf k = true ↔ T k = true ∧ (k : Int) ∈ R := fun k => by rw [h.rf k, h2 k, h1 k]; simp
  refine ⟨fun k => ?_, fun k hk => ?_, fun k hk => ?_, fun x hx => ?_, fun k hk => ?_, fun j hj hR => (hr j).2 ⟨hj, hR⟩⟩
  · rw [hr k, h.lf k, h1 k]
    constructor
    · intro a
      by_cases hm : (k : Int) ∈ R
      · exact Or.inr ⟨a, hm⟩
      · exact Or.inl ⟨a, hm⟩
    · rintro (a | a) <;> exact a.1
  · have := (h.lf k).1 hk
    cases e : z.rf k with
    | false => rfl
    | true => exact absurd ((hr k).1 e).2 this.2
  · exact .root ((hr k).1 hk).1 ((hr k).1 hk).2
  · rcases (h.st x).1 hx with a | ⟨k, a, b, c⟩
    · rw [h3] at a; cases a
    · exact ⟨k, a, (hr k).2 ⟨by rw [← h1]; exact b, c⟩⟩
  · exact Or.inl ((h.st _).2 (Or.inr ⟨k, rfl, by rw [h1]; exact ((hr k).1 hk).1, ((hr k).1 hk).2⟩))
/-- A slot is taken off the stack, and gone on from. -/
theorem Dv.step {T : Nat → Bool} {L : Nat → List Int} {R : List Int} {lf rf : Nat → Bool} {s : List Int} {i : Nat} {z : Wy} (h : Dv T L R ⟨lf, rf, s ++ [(i : Int)]⟩) (hz : WyR ⟨lf, rf, s⟩ (L i) z) : Dv T L R z := by
  have hi : rf i = true := by
    obtain ⟨k, e, hk⟩ := h.st (i : Int) (by simp)
    obtain rfl : i = k := by omega
    exact hk
  have hri := h.rch i hi
  have hT : ∀ k, lf k = true → T k = true := fun k hk => (h.all k).2 (Or.inl hk)
  refine ⟨fun k => ?_, fun k hk => ?_, fun k hk => ?_, fun x hx => ?_, fun k hk => ?_, fun j hj hR => (hz.rf j).2 (Or.inl (h.rts j hj hR))⟩
  · rw [h.all k, hz.lf k, hz.rf k]
    constructor
    · rintro (a | a)
      · by_cases hm : (k : Int) ∈ L i
        · exact Or.inr (Or.inr ⟨a, hm⟩)
        · exact Or.inl ⟨a, hm⟩
      · exact Or.inr (Or.inl a)
    · rintro (a | a | a)
      · exact Or.inl a.1
      · exact Or.inr a
      · exact Or.inl a.1
  · have h1 := (hz.lf k).1 hk
    cases e : z.rf k with
    | false => rfl
    | true =>
      rcases (hz.rf k).1 e with a | a
      · have := h.one k h1.1
        exact absurd a (by simp only at this ⊢; rw [this]; simp)
      · exact absurd a.2 h1.2
  · rcases (hz.rf k).1 hk with a | a
    · exact h.rch k a
    · exact .lead hri (hT k a.1) a.2
  · rcases (hz.st x).1 hx with a | ⟨k, a, b, c⟩
    · obtain ⟨k, e, hk⟩ := h.st x (by simp only [List.mem_append]; exact Or.inl a)
      exact ⟨k, e, (hz.rf k).2 (Or.inl hk)⟩
    · exact ⟨k, a, (hz.rf k).2 (Or.inr ⟨b, c⟩)⟩
  · rcases (hz.rf k).1 hk with a | a
    · rcases h.clo k a with b | b
      · simp only [List.mem_append, List.mem_singleton] at b
        rcases b with b | b
        · exact Or.inl ((hz.st _).2 (Or.inl b))
        · obtain rfl : k = i := by omega
          refine Or.inr (fun j hj hl => ?_)
          rw [hz.rf j]
          rcases (h.all j).1 hj with c | c
          · exact Or.inr ⟨c, hl⟩
          · exact Or.inl c
      · exact Or.inr (fun j hj hl => (hz.rf j).2 (Or.inl (b j hj hl)))
    · exact Or.inl ((hz.st _).2 (Or.inr ⟨k, rfl, a.1, a.2⟩))
theorem Dv.done {T : Nat → Bool} {L : Nat → List Int} {R : List Int} {lf rf : Nat → Bool} (h : Dv T L R ⟨lf, rf, []⟩) (k : Nat) : rf k = true ↔ Rch T L R k := by
  constructor
  · exact h.rch k
  · intro hr
    induction hr with
    | root h1 h2 => exact h.rts _ h1 h2
    | lead _ h1 h2 ih =>
      rcases h.clo _ ih with b | b
      · cases b
      · exact b _ h1 h2
end Go.Proofs.YtbnmnmbfdfgohaaDoor
