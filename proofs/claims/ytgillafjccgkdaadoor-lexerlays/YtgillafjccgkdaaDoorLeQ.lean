/-
  Texts in quotes: plain facts on lists of bytes. No program.
-/
import Derived.Test.YtgillafjccgkdaaDoorLeMath
namespace Go.Proofs.YtgillafjccgkdaaDoor
open Go.Lib

/-- A hexadecimal digit's number. -/
def hexd (c : Nat) : Option Nat := if 48 ≤ c ∧ c ≤ 57 then some (c - 48) else if 97 ≤ c ∧ c ≤ 102 then some (c - 87) else if 65 ≤ c ∧ c ≤ 70 then some (c - 55) else none
def hexs : Nat → List UInt8 → Option Nat
  | acc, [] => some acc
  | acc, c :: t => match hexd c.toNat with
    | none => none
    | some d => hexs (16 * acc + d) t
theorem hexs_none (acc : Nat) (c : UInt8) (t : List UInt8) (h : hexd c.toNat = none) : hexs acc (c :: t) = none := by simp [hexs, h]
theorem hexs_some (acc d : Nat) (c : UInt8) (t : List UInt8) (h : hexd c.toNat = some d) : hexs acc (c :: t) = hexs (16 * acc + d) t := by simp [hexs, h]
theorem hexd_lt (c d : Nat) (h : hexd c = some d) : d < 16 := by
  unfold hexd at h
  repeat' split at h
  all_goals simp at h
  all_goals omega
theorem hexs_lt : ∀ (l : List UInt8) (acc v : Nat), hexs acc l = some v → v < (acc + 1) * 16 ^ l.length
  | [], acc, v, h => by
    simp [hexs] at h
    simp
    omega
  | c :: t, acc, v, h => by
    cases hd : hexd c.toNat with
    | none => rw [hexs_none _ _ _ hd] at h; cases h
    | some d =>
      rw [hexs_some _ _ _ _ hd] at h
      have h1 := hexs_lt t _ v h
      have h2 := hexd_lt _ _ hd
      have h3 : (16 * acc + d + 1) * 16 ^ t.length ≤ (16 * (acc + 1)) * 16 ^ t.length := Nat.mul_le_mul_right _ (by omega)
      have h4 : (16 * (acc + 1)) * 16 ^ t.length = (acc + 1) * 16 ^ (c :: t).length := by
        rw [List.length_cons, Nat.pow_succ, Nat.mul_comm 16 (acc + 1), Nat.mul_assoc, Nat.mul_comm 16]
      omega
/-- The number of so many digits at the beginning. -/
def rh (l : List UInt8) (n : Nat) : Option Nat := if l.length < n then none else hexs 0 (l.take n)
theorem rh_lt {l : List UInt8} {n v : Nat} (h : rh l n = some v) (hn : n ≤ 4) : v < 65536 := by
  unfold rh at h
  split at h
  · cases h
  · have h1 := hexs_lt _ _ _ h
    have h2 : (l.take n).length ≤ 4 := by rw [List.length_take]; omega
    have h3 : 16 ^ (l.take n).length ≤ 65536 := Nat.le_trans (Nat.pow_le_pow_right (by omega) h2) (by decide)
    omega

/-- May a rune not stand within quotes as it is? -/
def ctl (r : Nat) : Bool := decide (r < 32 ∨ r = 127)
/-- What a number in digits says, if it may: itself, and so many bytes. -/
def num (v : Option Nat) (most : Nat) (n : Nat) : Nat × Nat := match v with
  | some v => if v ≤ most ∧ (v < 55296 ∨ 57344 ≤ v) then (v, n) else (0, 0)
  | none => (0, 0)
/-- What a backslash and what stands behind it say. -/
def re (l : List UInt8) : Nat × Nat :=
  if l.length < 2 then (0, 0)
  else if (l.getD 1 0).toNat = 92 ∨ (l.getD 1 0).toNat = 39 ∨ (l.getD 1 0).toNat = 34 then ((l.getD 1 0).toNat, 2)
  else if (l.getD 1 0).toNat = 110 then (10, 2)
  else if (l.getD 1 0).toNat = 116 then (9, 2)
  else if (l.getD 1 0).toNat = 120 then num (rh (l.drop 2) 2) 127 4
  else if (l.getD 1 0).toNat = 117 then num (rh (l.drop 2) 4) 1114111 6
  else (0, 0)
/-- What the first rune within quotes says, and how many bytes it has; 0: none. -/
def rq (l : List UInt8) : Nat × Nat :=
  if bad l then (0, 0) else if ctl (decodeL l).1 = true then (0, 0) else if (decodeL l).1 = 92 then re l else decodeL l

/-- What a text in quotes says from a place within them on, and how many bytes that has, the closing quote with it. -/
def uqGo (c : UInt8) : Nat → List UInt8 → Option (List UInt8 × Nat)
  | 0, _ => none
  | f + 1, l => if l = [] then none else if l.getD 0 0 = c then some ([], 1) else if (rq l).2 = 0 then none
      else (uqGo c f (l.drop (rq l).2)).map fun p => (enc (rq l).1 ++ p.1, (rq l).2 + p.2)
def uq (c : UInt8) (l : List UInt8) : Option (List UInt8 × Nat) := uqGo c l.length l
theorem uqGo_nil (c : UInt8) : ∀ f, uqGo c f [] = none
  | 0 => rfl
  | _ + 1 => by simp [uqGo]
theorem uqGo_fuel (c : UInt8) : ∀ (n m : Nat) (l : List UInt8), l.length ≤ n → l.length ≤ m → uqGo c n l = uqGo c m l
  | 0, m, l, hn, _ => by
    have : l = [] := List.eq_nil_of_length_eq_zero (by omega)
    subst this
    rw [uqGo_nil, uqGo_nil]
  | n + 1, 0, l, _, hm => by
    have : l = [] := List.eq_nil_of_length_eq_zero (by omega)
    subst this
    rw [uqGo_nil, uqGo_nil]
  | n + 1, m + 1, l, hn, hm => by
    unfold uqGo
    by_cases hne : l = []
    · simp [hne]
    · by_cases h0 : (rq l).2 = 0
      · simp [h0]
      · have hl : 0 < l.length := List.length_pos_iff.2 hne
        rw [uqGo_fuel c n m (l.drop (rq l).2) (by rw [List.length_drop]; omega) (by rw [List.length_drop]; omega)]
theorem uq_nil (c : UInt8) : uq c [] = none := rfl
theorem uq_step (c : UInt8) (l : List UInt8) (hne : l ≠ []) : uq c l = if l.getD 0 0 = c then some ([], 1) else if (rq l).2 = 0 then none else (uq c (l.drop (rq l).2)).map fun p => (enc (rq l).1 ++ p.1, (rq l).2 + p.2) := by
  have hl : 0 < l.length := List.length_pos_iff.2 hne
  unfold uq
  obtain ⟨n, hn⟩ : ∃ n, l.length = n + 1 := ⟨l.length - 1, by omega⟩
  rw [hn]
  rw [uqGo, if_neg hne]
  by_cases h0 : (rq l).2 = 0
  · simp [h0]
  · rw [uqGo_fuel c n _ _ (by rw [List.length_drop]; omega) (Nat.le_refl _)]
/-- What a quoted text at the beginning of l says, and how many bytes it has. -/
def unq (l : List UInt8) : Option (List UInt8 × Nat) :=
  if l = [] then none else if l.getD 0 0 = 39 ∨ l.getD 0 0 = 34 then (uq (l.getD 0 0) (l.drop 1)).map fun p => (p.1, 1 + p.2) else none
end Go.Proofs.YtgillafjccgkdaaDoor
