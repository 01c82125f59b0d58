/-
  How many numbers below n meet a test; a row of different numbers below n that is n long has them all. A trail comes to every cell: so to the first empty one. No program.
-/
import Derived.Test.YtjkpailkamafcaaGreatDoorTrMath
import Derived.Test.YtjkpailkamafcaaGreatDoorFnMath
namespace Go.Proofs.YtjkpailkamafcaaGreatDoor

/-- How many numbers below n meet p. -/
def cnt (p : Nat → Bool) : Nat → Nat
  | 0 => 0
  | n + 1 => cnt p n + (if p n = true then 1 else 0)
theorem cnt_le (p : Nat → Bool) (n : Nat) : cnt p n ≤ n := by
  induction n with
  | zero => exact Nat.le_refl _
  | succ n ih => rw [cnt]; split <;> omega
theorem cnt_congr {p q : Nat → Bool} {n : Nat} (h : ∀ x, x < n → p x = q x) : cnt p n = cnt q n := by
  induction n with
  | zero => rfl
  | succ n ih => rw [cnt, cnt, ih fun x hx => h x (by omega), h n (by omega)]
theorem cnt_add {p q : Nat → Bool} {n x : Nat} (hx : x < n) (hp : p x = false) (hq : q x = true) (h : ∀ y, y < n → y ≠ x → q y = p y) : cnt q n = cnt p n + 1 := by
  induction n with
  | zero => omega
  | succ n ih =>
    rw [cnt, cnt]
    by_cases e : x = n
    · subst e
      rw [cnt_congr (q := p) fun y hy => h y (by omega) (by omega), if_pos hq, if_neg (by rw [hp]; simp)]
    · rw [ih (by omega) fun y hy => h y (by omega), h n (by omega) (fun z => e z.symm)]
      omega
theorem cnt_not (p : Nat → Bool) (n : Nat) : cnt p n + cnt (fun x => !p x) n = n := by
  induction n with
  | zero => rfl
  | succ n ih =>
    rw [cnt, cnt]
    cases p n <;> simp <;> omega
theorem cnt_full {p : Nat → Bool} {n : Nat} (h : cnt p n = n) : ∀ x, x < n → p x = true := by
  induction n with
  | zero => intro x hx; omega
  | succ n ih =>
    intro x hx
    have h1 := cnt_le p n
    rw [cnt] at h
    have h2 : p n = true := by
      cases hp : p n with
      | true => rfl
      | false => rw [hp] at h; simp at h; omega
    rw [if_pos h2] at h
    by_cases e : x = n
    · rw [e]; exact h2
    · exact ih (by omega) x (by omega)
theorem cnt_some {p : Nat → Bool} {n : Nat} (h : 0 < cnt p n) : ∃ x, x < n ∧ p x = true := by
  induction n with
  | zero => simp [cnt] at h
  | succ n ih =>
    by_cases hp : p n = true
    · exact ⟨n, by omega, hp⟩
    · rw [cnt, if_neg hp] at h
      obtain ⟨x, h1, h2⟩ := ih h
      exact ⟨x, by omega, h2⟩
theorem cnt_none {p : Nat → Bool} {n : Nat} (h : ∀ x, x < n → p x = false) : cnt p n = 0 := by
  induction n with
  | zero => rfl
  | succ n ih => rw [cnt, ih fun x hx => h x (by omega), h n (by omega)]; rfl
/-- n different numbers below n: each is among them. -/
theorem hit_all (f : Nat → Nat) (n : Nat) (hf : ∀ i, i < n → f i < n) (inj : ∀ i j, i < j → j < n → f i ≠ f j) : ∀ y, y < n → ∃ i, i < n ∧ f i = y := by
  have key : ∀ k, k ≤ n → cnt (fun x => (List.range k).any fun i => f i == x) n = k := by
    intro k
    induction k with
    | zero => intro _; exact cnt_none fun x _ => by simp
    | succ k ih =>
      intro hk
      rw [cnt_add (p := fun x => (List.range k).any fun i => f i == x) (x := f k) (hf k (by omega)), ih (by omega)]
      · rw [List.any_eq_false]
        intro i hi
        have := inj i k (List.mem_range.1 hi) (by omega)
        simp [this]
      · simp [List.range_succ]
      · intro y _ hy
        simp only [List.range_succ, List.any_append, List.any_cons, List.any_nil, Bool.or_false]
        rw [show (f k == y) = false by simp; exact fun e => hy e.symm, Bool.or_false]
  intro y hy
  have h := cnt_full (key n (Nat.le_refl _)) y hy
  rw [List.any_eq_true] at h
  obtain ⟨i, h1, h2⟩ := h
  exact ⟨i, List.mem_range.1 h1, by simpa using h2⟩
theorem least {P : Nat → Prop} : ∀ n, P n → ∃ i, i ≤ n ∧ P i ∧ ∀ j, j < i → ¬ P j := by
  intro n
  induction n using Nat.strongRecOn with
  | _ n ih =>
    intro h
    by_cases e : ∃ m, m < n ∧ P m
    · obtain ⟨m, h1, h2⟩ := e
      obtain ⟨i, h3, h4, h5⟩ := ih m h1 h2
      exact ⟨i, by omega, h4, h5⟩
    · exact ⟨n, Nat.le_refl _, h, fun j hj hp => e ⟨j, hj, hp⟩⟩
/-- A trail comes to every cell among its first 2 ^ L + 13. -/
theorem trl_all (h L x : Nat) (hh : h < 18446744073709551616) (hx : x < 2 ^ L) : ∃ i, i < 2 ^ L + 13 ∧ trl h L i = x := by
  obtain ⟨d, h1, h2⟩ := hit_all (fun d => trl h L (13 + d)) (2 ^ L) (fun i _ => trl_lt _ _ _) (fun i j h1 h2 => trl_apart h L 13 (gone h hh) (13 + i) (13 + j) (by omega) (by omega) (by omega)) x hx
  exact ⟨13 + d, by omega, h2⟩
/-- i is the place of the first empty cell of a trail. -/
def IsF (c : Nat → Int) (h L i : Nat) : Prop := c (trl h L i) = -1 ∧ ∀ j, j < i → c (trl h L j) ≠ -1
theorem IsF.uniq {c : Nat → Int} {h L i j : Nat} (a : IsF c h L i) (b : IsF c h L j) : i = j := by
  rcases Nat.lt_trichotomy i j with e | e | e
  · exact absurd a.1 (b.2 i e)
  · exact e
  · exact absurd b.1 (a.2 j e)
theorem isF_some {c : Nat → Int} {L x : Nat} (h : Nat) (hh : h < 18446744073709551616) (hx : x < 2 ^ L) (hc : c x = -1) : ∃ i, i < 2 ^ L + 13 ∧ IsF c h L i := by
  obtain ⟨k, h1, h2⟩ := trl_all h L x hh hx
  obtain ⟨i, h3, h4, h5⟩ := least (P := fun i => c (trl h L i) = -1) k (by rw [h2]; exact hc)
  exact ⟨i, by omega, h4, h5⟩
end Go.Proofs.YtjkpailkamafcaaGreatDoor
