/-
  Texts as runes: plain facts on lists of bytes. No program.
-/
import Derived.Lib.MapLaws
import Derived.Lib.ValidLaws
namespace Go.Proofs.YtgillafjccgkdaaDoor
open Go.Lib

/-- The pieces of a text. -/
def rsGo : Nat → List UInt8 → List Nat
  | 0, _ => []
  | n + 1, l => if l = [] then [] else (decodeL l).1 :: rsGo n (l.drop (decodeL l).2)
def rl (l : List UInt8) : List Nat := rsGo l.length l
theorem rsGo_nil : ∀ n, rsGo n [] = []
  | 0 => rfl
  | _ + 1 => by simp [rsGo]
theorem rsGo_fuel : ∀ (n m : Nat) (l : List UInt8), l.length ≤ n → l.length ≤ m → rsGo n l = rsGo m l
  | 0, m, l, hn, _ => by
    have : l = [] := List.eq_nil_of_length_eq_zero (by omega)
    subst this
    rw [rsGo_nil, rsGo_nil]
  | n + 1, 0, l, _, hm => by
    have : l = [] := List.eq_nil_of_length_eq_zero (by omega)
    subst this
    rw [rsGo_nil, rsGo_nil]
  | n + 1, m + 1, l, hn, hm => by
    by_cases hne : l = []
    · subst hne
      rw [rsGo_nil, rsGo_nil]
    · have hw := decodeL_width l
      have hl : 0 < l.length := List.length_pos_iff.2 hne
      simp only [rsGo, if_neg hne]
      rw [rsGo_fuel n m _ (by rw [List.length_drop]; omega) (by rw [List.length_drop]; omega)]
theorem rl_nil : rl [] = [] := rfl
theorem rl_step (l : List UInt8) (hne : l ≠ []) : rl l = (decodeL l).1 :: rl (l.drop (decodeL l).2) := by
  have hw := decodeL_width l
  have hl : 0 < l.length := List.length_pos_iff.2 hne
  unfold rl
  obtain ⟨n, hn⟩ : ∃ n, l.length = n + 1 := ⟨l.length - 1, by omega⟩
  rw [hn]
  simp only [rsGo, if_neg hne]
  rw [rsGo_fuel n _ _ (by rw [List.length_drop]; omega) (Nat.le_refl _)]
theorem rl_len_le : ∀ (n : Nat) (l : List UInt8), l.length ≤ n → (rl l).length ≤ l.length
  | 0, l, h => by
    have : l = [] := List.eq_nil_of_length_eq_zero (by omega)
    subst this
    simp [rl_nil]
  | n + 1, l, h => by
    by_cases hne : l = []
    · subst hne; simp [rl_nil]
    · have hw := decodeL_width l
      have hl : 0 < l.length := List.length_pos_iff.2 hne
      have ih := rl_len_le n (l.drop (decodeL l).2) (by rw [List.length_drop]; omega)
      rw [rl_step l hne]
      rw [List.length_drop] at ih
      simp only [List.length_cons]
      omega
theorem rl_le (l : List UInt8) : (rl l).length ≤ l.length := rl_len_le _ l (Nat.le_refl _)
theorem rl_pos (l : List UInt8) (hne : l ≠ []) : 0 < (rl l).length := by rw [rl_step l hne]; simp

/-- A rune: no surrogate half, not beyond the last one. -/
def isRune (r : Nat) : Prop := r < 55296 ∨ (57344 ≤ r ∧ r ≤ 1114111)
theorem decodeL_isRune (l : List UInt8) : isRune (decodeL l).1 := by
  rw [decodeL_N]
  have k0 := (l.getD 0 0).toNat_lt
  have k1 := (l.getD 1 0).toNat_lt
  unfold isRune
  rcases decodeN_shape l.length (l.getD 0 0).toNat (l.getD 1 0).toNat (l.getD 2 0).toNat (l.getD 3 0).toNat with ⟨c, e⟩ | ⟨c1, c2, c3, cv, e⟩ | ⟨c1, c2, c3, c4, cv, cs, e⟩ | ⟨c1, c2, c3, c4, c5, cv, cw, e⟩ | e
  all_goals (rw [e]; dsimp only; omega)
theorem rl_isRune_go : ∀ (n : Nat) (l : List UInt8), l.length ≤ n → ∀ r ∈ rl l, isRune r
  | 0, l, h => by
    have : l = [] := List.eq_nil_of_length_eq_zero (by omega)
    subst this
    simp [rl_nil]
  | n + 1, l, h => by
    by_cases hne : l = []
    · subst hne; simp [rl_nil]
    · have hw := decodeL_width l
      have hl : 0 < l.length := List.length_pos_iff.2 hne
      have ih := rl_isRune_go n (l.drop (decodeL l).2) (by rw [List.length_drop]; omega)
      rw [rl_step l hne]
      intro r hr
      rcases List.mem_cons.1 hr with e | e
      · rw [e]; exact decodeL_isRune l
      · exact ih r e
theorem rl_isRune (l : List UInt8) : ∀ r ∈ rl l, isRune r := rl_isRune_go _ l (Nat.le_refl _)

/-- A rune's bytes. -/
def enc (r : Nat) : List UInt8 := encodeRune (r : Int)
/-- The bytes of runes, one behind the other. -/
def encs (rs : List Nat) : List UInt8 := rs.flatMap enc
theorem enc_len (r : Nat) : 1 ≤ (enc r).length ∧ (enc r).length ≤ 4 := by
  have := encodeRuneZ_length (r : Int)
  simpa [enc, encodeRune] using this
theorem enc_ascii (r : Nat) (h : r < 128) : enc r = [UInt8.ofNat r] := by
  unfold enc encodeRune
  rw [encodeRuneZ_one (by omega) (by omega)]
  simp
/-- What was encoded is decoded. -/
theorem decode_enc (r : Nat) (h : isRune r) (t : List UInt8) : decodeL (enc r ++ t) = (r, (enc r).length) := by
  have hb : ∀ n : Nat, n < 256 → (UInt8.ofNat n).toNat = n := fun n hn => by simp; omega
  unfold isRune at h
  rw [decodeL_N]
  unfold enc encodeRune
  by_cases h1 : r < 128
  · rw [encodeRuneZ_one (by omega) (by omega)]
    have e0 : ((r : Int).toNat.toUInt8).toNat = r := by simp; omega
    simp only [List.map_cons, List.map_nil, List.cons_append, List.nil_append, List.getD_cons_zero, e0, List.length_cons, List.length_nil]
    rw [decodeN_ascii _ _ _ _ _ h1]
  · by_cases h2 : r < 2048
    · rw [encodeRuneZ_two (by omega) (by omega)]
      have e0 : ((192 + (r : Int) / 64).toNat.toUInt8).toNat = 192 + r / 64 := by simp; omega
      have e1 : ((128 + (r : Int) % 64).toNat.toUInt8).toNat = 128 + r % 64 := by simp; omega
      simp only [List.map_cons, List.map_nil, List.cons_append, List.nil_append, List.getD_cons_zero, List.getD_cons_succ, e0, e1, List.length_cons, List.length_nil]
      unfold decodeN
      rw [if_neg (by omega), if_pos (by omega), if_pos (by omega)]
      simp only [Prod.mk.injEq, and_true]
      omega
    · by_cases h3 : r < 65536
      · rw [encodeRuneZ_three (by omega)]
        have e0 : ((224 + (r : Int) / 4096).toNat.toUInt8).toNat = 224 + r / 4096 := by simp; omega
        have e1 : ((128 + (r : Int) / 64 % 64).toNat.toUInt8).toNat = 128 + r / 64 % 64 := by simp; omega
        have e2 : ((128 + (r : Int) % 64).toNat.toUInt8).toNat = 128 + r % 64 := by simp; omega
        simp only [List.map_cons, List.map_nil, List.cons_append, List.nil_append, List.getD_cons_zero, List.getD_cons_succ, e0, e1, e2, List.length_cons, List.length_nil]
        unfold decodeN
        rw [if_neg (by omega), if_neg (by omega), if_pos (by omega), if_pos (by omega)]
        simp only [Prod.mk.injEq, and_true]
        omega
      · rw [encodeRuneZ_four (by omega) (by omega)]
        have e0 : ((240 + (r : Int) / 262144).toNat.toUInt8).toNat = 240 + r / 262144 := by simp; omega
        have e1 : ((128 + (r : Int) / 4096 % 64).toNat.toUInt8).toNat = 128 + r / 4096 % 64 := by simp; omega
        have e2 : ((128 + (r : Int) / 64 % 64).toNat.toUInt8).toNat = 128 + r / 64 % 64 := by simp; omega
        have e3 : ((128 + (r : Int) % 64).toNat.toUInt8).toNat = 128 + r % 64 := by simp; omega
        simp only [List.map_cons, List.map_nil, List.cons_append, List.nil_append, List.getD_cons_zero, List.getD_cons_succ, e0, e1, e2, e3, List.length_cons, List.length_nil]
        unfold decodeN
        rw [if_neg (by omega), if_neg (by omega), if_neg (by omega), if_pos (by omega), if_pos (by omega)]
        simp only [Prod.mk.injEq, and_true]
        omega
/-- A bad byte at the head. -/
def bad (l : List UInt8) : Prop := (decodeL l).1 = 65533 ∧ (decodeL l).2 = 1
instance (l : List UInt8) : Decidable (bad l) := inferInstanceAs (Decidable (_ ∧ _))
theorem enc_err : (enc 65533).length = 3 := by decide
theorem enc_decode (l : List UInt8) (hne : l ≠ []) (hv : ¬ bad l) : enc (decodeL l).1 = l.take (decodeL l).2 := encode_decode l hne hv
theorem enc_not_bad (r : Nat) (h : isRune r) (t : List UInt8) : ¬ bad (enc r ++ t) := by
  unfold bad
  rw [decode_enc r h t]
  intro ⟨h1, h2⟩
  simp only at h1 h2
  subst h1
  rw [enc_err] at h2
  omega
theorem encs_cons (r : Nat) (rs : List Nat) : encs (r :: rs) = enc r ++ encs rs := rfl
theorem enc_ne (r : Nat) : enc r ≠ [] := by
  have := (enc_len r).1
  intro h
  rw [h] at this
  simp at this
/-- Runes that were encoded are the pieces. -/
theorem rl_encs : ∀ rs : List Nat, (∀ r ∈ rs, isRune r) → rl (encs rs) = rs
  | [], _ => rfl
  | r :: rs, h => by
    have hr : isRune r := h r (by simp)
    have hne : enc r ++ encs rs ≠ [] := by simp [enc_ne]
    rw [encs_cons, rl_step _ hne, decode_enc r hr]
    simp only [List.drop_left']
    rw [rl_encs rs (fun x hx => h x (by simp [hx]))]
theorem valid_encs : ∀ rs : List Nat, (∀ r ∈ rs, isRune r) → validD (encs rs) = true
  | [], _ => rfl
  | r :: rs, h => by
    have hr : isRune r := h r (by simp)
    have hne : enc r ++ encs rs ≠ [] := by simp [enc_ne]
    rw [encs_cons, validD_step _ hne, if_neg (show ¬ ((decodeL (enc r ++ encs rs)).1 = 65533 ∧ (decodeL (enc r ++ encs rs)).2 = 1) from enc_not_bad r hr _), decode_enc r hr]
    simp only [List.drop_left']
    exact valid_encs rs (fun x hx => h x (by simp [hx]))
/-- A text with U+FFFD for each bad byte. -/
def mend (l : List UInt8) : List UInt8 := encs (rl l)
theorem mend_step (l : List UInt8) (hne : l ≠ []) : mend l = enc (decodeL l).1 ++ mend (l.drop (decodeL l).2) := by
  unfold mend
  rw [rl_step l hne, encs_cons]
theorem mend_valid (l : List UInt8) : validD (mend l) = true := valid_encs _ (rl_isRune l)
theorem mend_len_go : ∀ (n : Nat) (l : List UInt8), l.length ≤ n → (validD l = true → mend l = l) ∧ l.length ≤ (mend l).length ∧ (validD l = false → l.length < (mend l).length) ∧ (mend l).length ≤ 3 * l.length
  | 0, l, h => by
    have : l = [] := List.eq_nil_of_length_eq_zero (by omega)
    subst this
    refine ⟨fun _ => rfl, Nat.le_refl _, fun h => ?_, by simp [mend, rl_nil, encs]⟩
    cases h
  | n + 1, l, h => by
    by_cases hne : l = []
    · subst hne
      refine ⟨fun _ => rfl, Nat.le_refl _, fun h => ?_, by simp [mend, rl_nil, encs]⟩
      cases h
    · have hw := decodeL_width l
      have hl : 0 < l.length := List.length_pos_iff.2 hne
      have hle := decodeL_le l hne
      obtain ⟨i1, i2, i3, i4⟩ := mend_len_go n (l.drop (decodeL l).2) (by rw [List.length_drop]; omega)
      rw [mend_step l hne, validD_step l hne]
      rw [List.length_drop] at i2 i3 i4
      by_cases hb : bad l
      · have hb' := hb
        obtain ⟨b1, b2⟩ := hb'
        have e3 : (enc (decodeL l).1).length = 3 := by rw [b1]; exact enc_err
        rw [if_pos (show (decodeL l).1 = 65533 ∧ (decodeL l).2 = 1 from hb)]
        exact ⟨fun h => (by cases h), by rw [List.length_append]; omega, fun _ => by rw [List.length_append]; omega, by rw [List.length_append]; omega⟩
      · rw [if_neg (show ¬ ((decodeL l).1 = 65533 ∧ (decodeL l).2 = 1) from hb)]
        have e := enc_decode l hne hb
        have el : (enc (decodeL l).1).length = (decodeL l).2 := by rw [e, List.length_take]; omega
        refine ⟨fun hv => ?_, ?_, fun hv => ?_, ?_⟩
        · rw [i1 hv, e, List.take_append_drop]
        · rw [List.length_append]; omega
        · have := i3 hv
          rw [List.length_append]; omega
        · rw [List.length_append]; omega
theorem mend_of_valid (l : List UInt8) (h : validD l = true) : mend l = l := (mend_len_go _ l (Nat.le_refl _)).1 h
theorem mend_eq_iff (l : List UInt8) : validD l = true ↔ mend l = l := by
  refine ⟨mend_of_valid l, fun h => ?_⟩
  cases hv : validD l with
  | true => rfl
  | false =>
    have := (mend_len_go _ l (Nat.le_refl _)).2.2.1 hv
    rw [h] at this
    omega
theorem mend_le (l : List UInt8) : (mend l).length ≤ 3 * l.length := (mend_len_go _ l (Nat.le_refl _)).2.2.2
theorem valid_iff (l : List UInt8) : validD l = decide (mend l = l) := by
  cases hv : validD l with
  | true => simp [(mend_eq_iff l).1 hv]
  | false =>
    have : ¬ mend l = l := fun h => by rw [(mend_eq_iff l).2 h] at hv; cases hv
    simp [this]
end Go.Proofs.YtgillafjccgkdaaDoor
