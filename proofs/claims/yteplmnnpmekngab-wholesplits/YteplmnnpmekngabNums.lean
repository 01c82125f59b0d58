/-
  Plain mathematics of rows of words of 32 bits, the lowest first: their value, their trimmed form, their order. No program, no world.
-/
import Derived.WalkKit
namespace Go.Proofs.Yteplmnnpmekngab

/-- The powers of 2^32. -/
def pw : Nat → Nat
  | 0 => 1
  | k + 1 => 4294967296 * pw k
theorem pw_pos (k : Nat) : 0 < pw k := by
  induction k with
  | zero => simp [pw]
  | succ k ih => simp only [pw]; omega
theorem pw_add (a b : Nat) : pw (a + b) = pw a * pw b := by
  induction a with
  | zero => simp [pw]
  | succ a ih => rw [Nat.succ_add, pw, pw, ih, Nat.mul_assoc]
theorem pw_mono {a b : Nat} (h : a ≤ b) : pw a ≤ pw b := by
  obtain ⟨c, rfl⟩ := Nat.exists_eq_add_of_le h
  rw [pw_add]
  exact Nat.le_mul_of_pos_right _ (pw_pos c)
theorem pw_lt {a b : Nat} (h : pw a < pw b) : a < b := by
  refine Nat.lt_of_not_le fun hb => ?_
  have := pw_mono hb
  omega

def val : List Nat → Nat
  | [] => 0
  | x :: xs => x + 4294967296 * val xs
def okw (xs : List Nat) : Prop := ∀ x ∈ xs, x < 4294967296
theorem okw_nil : okw [] := fun _ h => by cases h
theorem okw_cons {x : Nat} {xs : List Nat} : okw (x :: xs) ↔ x < 4294967296 ∧ okw xs := by simp [okw]
theorem okw_take {xs : List Nat} (h : okw xs) (k : Nat) : okw (xs.take k) := fun x hx => h x (List.mem_of_mem_take hx)
theorem okw_append {xs ys : List Nat} : okw (xs ++ ys) ↔ okw xs ∧ okw ys := by
  simp only [okw, List.mem_append]
  exact ⟨fun h => ⟨fun x hx => h x (Or.inl hx), fun x hx => h x (Or.inr hx)⟩, fun h x hx => hx.elim (h.1 x) (h.2 x)⟩
theorem okw_get {xs : List Nat} (h : okw xs) (k : Nat) : xs[k]?.getD 0 < 4294967296 := by
  rcases Nat.lt_or_ge k xs.length with hk | hk
  · rw [List.getElem?_eq_getElem hk]; exact h _ (List.getElem_mem hk)
  · rw [List.getElem?_eq_none hk]; simp
theorem val_append (xs ys : List Nat) : val (xs ++ ys) = val xs + pw xs.length * val ys := by
  induction xs with
  | nil => simp [val, pw]
  | cons x xs ih => simp only [List.cons_append, val, List.length_cons, pw]; rw [ih, Nat.mul_add, Nat.mul_assoc]; omega
theorem val_lt {xs : List Nat} (h : okw xs) : val xs < pw xs.length := by
  induction xs with
  | nil => simp [val, pw]
  | cons x xs ih =>
    have h1 := ih (okw_cons.1 h).2
    have h2 := (okw_cons.1 h).1
    simp only [val, List.length_cons, pw]
    omega
theorem take_succ_get (xs : List Nat) (k : Nat) (h : k < xs.length) : xs.take (k + 1) = xs.take k ++ [xs[k]?.getD 0] := by
  rw [List.take_succ_eq_append_getElem h, List.getElem?_eq_getElem h]; rfl
theorem val_take_succ (xs : List Nat) (k : Nat) (h : k < xs.length) : val (xs.take (k + 1)) = val (xs.take k) + pw k * (xs[k]?.getD 0) := by
  rw [take_succ_get xs k h, val_append, List.length_take, Nat.min_eq_left (by omega)]
  simp [val]
theorem val_replicate (n : Nat) : val (List.replicate n 0) = 0 := by
  induction n with
  | zero => rfl
  | succ n ih => simp [List.replicate_succ, val, ih]

/-- Without noughts at the end. -/
def Tr (xs : List Nat) : Prop := xs.length = 0 ∨ xs[xs.length - 1]?.getD 0 ≠ 0
def tl (zs : List Nat) : Nat → Nat
  | 0 => 0
  | k + 1 => if zs[k]?.getD 0 = 0 then tl zs k else k + 1
def trimL (xs : List Nat) : List Nat := xs.take (tl xs xs.length)
theorem tl_le (zs : List Nat) (k : Nat) : tl zs k ≤ k := by
  induction k with
  | zero => simp [tl]
  | succ k ih => simp only [tl]; split <;> omega
theorem tl_pos (zs : List Nat) (k : Nat) : tl zs k = 0 ∨ zs[tl zs k - 1]?.getD 0 ≠ 0 := by
  induction k with
  | zero => simp [tl]
  | succ k ih =>
    simp only [tl]
    split
    · exact ih
    · right; simpa using ‹¬ _›
theorem val_tl (zs : List Nat) (k : Nat) (h : k ≤ zs.length) : val (zs.take (tl zs k)) = val (zs.take k) := by
  induction k with
  | zero => simp [tl]
  | succ k ih =>
    simp only [tl]
    split
    · rename_i h0
      rw [ih (by omega), val_take_succ zs k (by omega), h0]; simp
    · rfl
theorem trimL_length (xs : List Nat) : (trimL xs).length = tl xs xs.length := by
  have := tl_le xs xs.length
  simp [trimL]; omega
theorem trimL_le (xs : List Nat) : (trimL xs).length ≤ xs.length := by rw [trimL_length]; exact tl_le _ _
theorem val_trimL (xs : List Nat) : val (trimL xs) = val xs := by
  have := val_tl xs xs.length (Nat.le_refl _)
  simpa [trimL] using this
theorem Tr_trimL (xs : List Nat) : Tr (trimL xs) := by
  have hl := tl_le xs xs.length
  unfold Tr
  rw [trimL_length]
  rcases tl_pos xs xs.length with h | h
  · exact Or.inl h
  · by_cases h0 : tl xs xs.length = 0
    · exact Or.inl h0
    · right
      rw [trimL, List.getElem?_take_of_lt (by omega)]
      exact h
theorem okw_trimL {xs : List Nat} (h : okw xs) : okw (trimL xs) := okw_take h _
theorem tl_Tr {xs : List Nat} (h : Tr xs) : tl xs xs.length = xs.length := by
  rcases h with h | h
  · rw [h]; rfl
  · cases hk : xs.length with
    | zero => rfl
    | succ k => rw [hk] at h; simp only [tl]; rw [if_neg (by simpa using h)]
theorem trimL_Tr {xs : List Nat} (h : Tr xs) : trimL xs = xs := by rw [trimL, tl_Tr h]; simp
theorem Tr_ge {xs : List Nat} (h : Tr xs) (h0 : xs.length ≠ 0) : pw (xs.length - 1) ≤ val xs := by
  obtain ⟨k, hk⟩ : ∃ k, xs.length = k + 1 := ⟨xs.length - 1, by omega⟩
  have e := val_take_succ xs k (by omega)
  rw [← hk, List.take_length] at e
  rcases h with h | h
  · omega
  · rw [hk] at h
    simp only [Nat.add_sub_cancel] at h
    rw [hk, e]
    simp only [Nat.add_sub_cancel]
    have := Nat.le_mul_of_pos_right (pw k) (Nat.pos_of_ne_zero h)
    omega
theorem Tr_len_lt {xs ys : List Nat} (h : Tr ys) (hx : okw xs) (hl : xs.length < ys.length) : val xs < val ys := by
  have h1 := val_lt hx
  have h2 := Tr_ge h (by omega)
  have h3 := pw_mono (show xs.length ≤ ys.length - 1 by omega)
  omega
theorem Tr_zero {xs : List Nat} (h : Tr xs) : val xs = 0 ↔ xs.length = 0 := by
  constructor
  · intro h0
    refine Decidable.byContradiction fun hn => ?_
    have := Tr_ge h hn
    have := pw_pos (xs.length - 1)
    omega
  · intro h0
    obtain rfl : xs = [] := List.eq_nil_of_length_eq_zero h0
    rfl
/-- A row of at most k words has a value below the k-th power; a trimmed one at or above it has more words. -/
theorem Tr_len_le {xs : List Nat} (h : Tr xs) (k : Nat) (hv : val xs < pw k) : xs.length ≤ k := by
  refine Nat.le_of_not_lt fun hl => ?_
  have h1 := Tr_ge h (by omega)
  have h2 := pw_mono (show k ≤ xs.length - 1 by omega)
  omega
theorem len_le_iff {xs : List Nat} (h : Tr xs) (hx : okw xs) (k : Nat) : xs.length ≤ k ↔ val xs < pw k :=
  ⟨fun hl => Nat.lt_of_lt_of_le (val_lt hx) (pw_mono hl), Tr_len_le h k⟩

/-- The order of two rows of one length is told by the highest word in which they part. -/
theorem val_cmp {xs ys : List Nat} (hx : okw xs) (hl : xs.length = ys.length) (i : Nat) (hi : i < xs.length)
    (hsame : ∀ j, i < j → j < xs.length → xs[j]?.getD 0 = ys[j]?.getD 0) (hlt : xs[i]?.getD 0 < ys[i]?.getD 0) : val xs < val ys := by
  have base : val (xs.take (i + 1)) < val (ys.take (i + 1)) := by
    rw [val_take_succ xs i hi, val_take_succ ys i (by omega)]
    have h1 := val_lt (okw_take hx i)
    rw [List.length_take, Nat.min_eq_left (by omega)] at h1
    have h2 : pw i * (xs[i]?.getD 0 + 1) ≤ pw i * (ys[i]?.getD 0) := Nat.mul_le_mul_left _ hlt
    rw [Nat.mul_add] at h2
    omega
  have up : ∀ m, i + 1 + m ≤ xs.length → val (xs.take (i + 1 + m)) < val (ys.take (i + 1 + m)) := by
    intro m
    induction m with
    | zero => intro _; exact base
    | succ m ih =>
      intro hm
      have := ih (by omega)
      rw [← Nat.add_assoc, val_take_succ xs _ (by omega), val_take_succ ys _ (by omega), hsame (i + 1 + m) (by omega) (by omega)]
      omega
  have h := up (xs.length - (i + 1)) (by omega)
  rw [show i + 1 + (xs.length - (i + 1)) = xs.length by omega] at h
  rw [List.take_length] at h
  rwa [hl, List.take_length] at h
theorem ext_get {xs ys : List Nat} (hl : xs.length = ys.length) (h : ∀ j, j < xs.length → xs[j]?.getD 0 = ys[j]?.getD 0) : xs = ys := by
  apply List.ext_getElem hl
  intro i h1 h2
  have := h i h1
  rw [List.getElem?_eq_getElem h1, List.getElem?_eq_getElem h2] at this
  simpa using this
theorem val_inj_len {xs ys : List Nat} (hx : okw xs) (hy : okw ys) (hl : xs.length = ys.length) (hv : val xs = val ys) : xs = ys := by
  induction xs generalizing ys with
  | nil => exact (List.eq_nil_of_length_eq_zero (by simpa using hl.symm)).symm
  | cons x xs ih =>
    cases ys with
    | nil => simp at hl
    | cons y ys =>
      simp only [val] at hv
      have h1 := (okw_cons.1 hx).1
      have h2 := (okw_cons.1 hy).1
      have e1 : x = y := by omega
      have e2 : val xs = val ys := by omega
      rw [e1, ih (okw_cons.1 hx).2 (okw_cons.1 hy).2 (by simpa using hl) e2]
theorem Tr_inj {xs ys : List Nat} (hx : okw xs) (hy : okw ys) (tx : Tr xs) (ty : Tr ys) (hv : val xs = val ys) : xs = ys := by
  refine val_inj_len hx hy ?_ hv
  rcases Nat.lt_trichotomy xs.length ys.length with h | h | h
  · have := Tr_len_lt ty hx h; omega
  · exact h
  · have := Tr_len_lt tx hy h; omega
/-- -1, 0 or 1, as a number is below another, is it, or is above. -/
def cmpN (a b : Nat) : Int := if a < b then -1 else if b < a then 1 else 0
end Go.Proofs.Yteplmnnpmekngab
