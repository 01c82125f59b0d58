/-
  Quotes: what a text becomes within them, and what that says: plain facts on lists of bytes. (It reads the plain part of the walk's text.)
-/
import Derived.Test.YtgillafjccgkdaaDoorLyf
namespace Go.Proofs.YtgillafjccgkdaaDoor
open Go.Lib

/-- A hexadecimal digit. -/
def hexDig (d : Nat) : UInt8 := UInt8.ofNat (if d < 10 then 48 + d else 87 + d)
/-- So many digits of a number. -/
def hxs : Nat → Nat → List UInt8
  | 0, _ => []
  | n + 1, r => hxs n (r / 16) ++ [hexDig (r % 16)]
theorem hxs_len (n r : Nat) : (hxs n r).length = n := by
  induction n generalizing r with
  | zero => rfl
  | succ n ih => simp [hxs, ih]
theorem hexDig_nat (d : Nat) (h : d < 16) : (hexDig d).toNat = if d < 10 then 48 + d else 87 + d := by
  unfold hexDig
  split <;> simp <;> omega
theorem hexd_dig (d : Nat) (h : d < 16) : hexd (hexDig d).toNat = some d := by
  rw [hexDig_nat d h]
  by_cases h1 : d < 10
  · rw [if_pos h1, hexd_dec (by omega) (by omega)]
    congr 1
    omega
  · rw [if_neg h1, hexd_low (by omega) (by omega)]
    congr 1
    omega
theorem hexs_app (a b : List UInt8) (acc : Nat) : hexs acc (a ++ b) = (hexs acc a).bind fun v => hexs v b := by
  induction a generalizing acc with
  | nil => rfl
  | cons c t ih =>
    rw [List.cons_append]
    cases h : hexd c.toNat with
    | none => rw [hexs_none _ _ _ h, hexs_none _ _ _ h]; rfl
    | some d => rw [hexs_some _ _ _ _ h, hexs_some _ _ _ _ h, ih]
theorem hexs_hxs (n r acc : Nat) (h : r < 16 ^ n) : hexs acc (hxs n r) = some (acc * 16 ^ n + r) := by
  induction n generalizing r with
  | zero =>
    have : r = 0 := by simpa using h
    subst this
    simp [hxs, hexs]
  | succ n ih =>
    have h1 : r / 16 < 16 ^ n := by
      rw [Nat.pow_succ] at h
      exact Nat.div_lt_of_lt_mul (by rw [Nat.mul_comm]; exact h)
    rw [hxs, hexs_app, ih _ h1]
    simp only [Option.bind_some]
    rw [hexs_some _ _ _ _ (hexd_dig (r % 16) (by omega))]
    simp only [hexs, Option.some.injEq]
    rw [Nat.pow_succ, ← Nat.mul_assoc, Nat.mul_comm (acc * 16 ^ n) 16]
    omega
/-- Is a rune written by its number? -/
def hidden (r : Nat) : Bool := decide (r = 8232 ∨ r = 8233 ∨ r = 65279 ∨ (128 ≤ r ∧ r ≤ 159))
/-- A rune within quotes. -/
def qr (r : Nat) : List UInt8 :=
  if r = 39 ∨ r = 92 then [92, UInt8.ofNat r]
  else if r = 10 then [92, 110]
  else if r = 9 then [92, 116]
  else if ctl r = true then [92, 120] ++ hxs 2 r
  else if hidden r = true then [92, 117] ++ hxs 4 r
  else enc r
def qrs (rs : List Nat) : List UInt8 := rs.flatMap qr
theorem qrs_cons (r : Nat) (rs : List Nat) : qrs (r :: rs) = qr r ++ qrs rs := rfl
/-- A text in quotes. -/
def quo (l : List UInt8) : List UInt8 := 39 :: (qrs (rl l) ++ [39])
theorem enc_head (r : Nat) (t : List UInt8) : ((enc r ++ t).getD 0 0).toNat = if r < 128 then r else ((enc r).getD 0 0).toNat := by
  by_cases h : r < 128
  · rw [if_pos h, enc_ascii r h]
    simp
    omega
  · rw [if_neg h]
    have := enc_ne r
    cases he : enc r with
    | nil => exact absurd he this
    | cons a b => simp
theorem enc_high (r : Nat) (hr : isRune r) (h : 128 ≤ r) : 128 ≤ ((enc r).getD 0 0).toNat := by
  by_cases hl : ((enc r).getD 0 0).toNat < 128
  · have hd := decodeL_ascii0 (enc r) hl
    have he := decode_enc r hr []
    rw [List.append_nil, hd] at he
    simp only [Prod.mk.injEq] at he
    omega
  · omega
/-- The escapes: what begins with a backslash. -/
theorem re_two (c : UInt8) (t : List UInt8) (h : c.toNat = 92 ∨ c.toNat = 39 ∨ c.toNat = 34) : re (92 :: c :: t) = (c.toNat, 2) := by
  unfold re
  rw [if_neg (by simp), if_pos (by simpa using h)]
  simp
theorem rh_app (l t : List UInt8) (n : Nat) (h : l.length = n) : rh (l ++ t) n = hexs 0 l := by
  unfold rh
  rw [if_neg (by rw [List.length_append]; omega)]
  congr 1
  rw [← h]
  simp
theorem hx2 (r : Nat) (h : r < 256) (t : List UInt8) : rh (hxs 2 r ++ t) 2 = some r := by
  rw [rh_app _ _ _ (hxs_len 2 r), hexs_hxs 2 r 0 h]
  simp
theorem hx4 (r : Nat) (h : r < 65536) (t : List UInt8) : rh (hxs 4 r ++ t) 4 = some r := by
  rw [rh_app _ _ _ (hxs_len 4 r), hexs_hxs 4 r 0 h]
  simp
theorem re_x (l : List UInt8) : re (92 :: 120 :: l) = num (rh l 2) 127 4 := by
  unfold re
  rw [if_neg (by simp), if_neg (by simp), if_neg (by simp), if_neg (by simp), if_pos (by simp)]
  simp
theorem re_u (l : List UInt8) : re (92 :: 117 :: l) = num (rh l 4) 1114111 6 := by
  unfold re
  rw [if_neg (by simp), if_neg (by simp), if_neg (by simp), if_neg (by simp), if_neg (by simp), if_pos (by simp)]
  simp
theorem rq_92 (l : List UInt8) : rq (92 :: l) = re (92 :: l) := rq_back _ (by simp)
theorem re_n (t : List UInt8) : re (92 :: 110 :: t) = (10, 2) := by
  unfold re
  rw [if_neg (by simp), if_neg (by simp), if_pos (by simp)]
theorem re_t (t : List UInt8) : re (92 :: 116 :: t) = (9, 2) := by
  unfold re
  rw [if_neg (by simp), if_neg (by simp), if_neg (by simp), if_pos (by simp)]

/-- What a rune within quotes says. -/
theorem rq_qr (r : Nat) (hr : isRune r) (t : List UInt8) : rq (qr r ++ t) = (r, (qr r).length) ∧ ((qr r ++ t).getD 0 0) ≠ 39 ∧ 1 ≤ (qr r).length := by
  unfold qr
  by_cases h1 : r = 39 ∨ r = 92
  · rw [if_pos h1]
    have hb : (UInt8.ofNat r).toNat = r := by simp; omega
    refine ⟨?_, by simp, by simp⟩
    show rq (92 :: (UInt8.ofNat r :: t)) = _
    rw [rq_92, re_two _ _ (by omega), hb]
    rfl
  · rw [if_neg h1]
    by_cases h2 : r = 10
    · rw [if_pos h2]
      refine ⟨?_, by simp, by simp⟩
      show rq (92 :: (110 :: t)) = _
      rw [rq_92, re_n, h2]
      rfl
    · rw [if_neg h2]
      by_cases h3 : r = 9
      · rw [if_pos h3]
        refine ⟨?_, by simp, by simp⟩
        show rq (92 :: (116 :: t)) = _
        rw [rq_92, re_t, h3]
        rfl
      · rw [if_neg h3]
        by_cases h4 : ctl r = true
        · rw [if_pos h4]
          have h4' : r < 32 ∨ r = 127 := of_decide_eq_true h4
          refine ⟨?_, by simp, by simp⟩
          show rq (92 :: (120 :: (hxs 2 r ++ t))) = _
          rw [rq_92, re_x, hx2 r (by omega), num_some_ok (by omega) (by omega)]
          simp [hxs_len]
        · rw [if_neg h4]
          have h4' : ¬ (r < 32 ∨ r = 127) := fun h => h4 (decide_eq_true h)
          by_cases h5 : hidden r = true
          · rw [if_pos h5]
            have h5' : r = 8232 ∨ r = 8233 ∨ r = 65279 ∨ (128 ≤ r ∧ r ≤ 159) := of_decide_eq_true h5
            refine ⟨?_, by simp, by simp⟩
            show rq (92 :: (117 :: (hxs 4 r ++ t))) = _
            rw [rq_92, re_u, hx4 r (by omega), num_some_ok (by omega) (by omega)]
            simp [hxs_len]
          · rw [if_neg h5]
            have hh := enc_head r t
            have hd := decode_enc r hr t
            have hb := enc_not_bad r hr t
            have hhi := enc_high r hr
            refine ⟨?_, ?_, (enc_len r).1⟩
            · rw [rq_plain _ ?_ ?_ hb, hd]
              · rw [hh]
                split
                · exact h4'
                · have := hhi (by omega); omega
              · rw [hh]
                split
                · omega
                · have := hhi (by omega); omega
            · intro h
              rw [h] at hh
              have h39 : (39 : UInt8).toNat = 39 := rfl
              rw [h39] at hh
              split at hh
              · omega
              · have := hhi (by omega); omega

/-- What the runes within quotes say. -/
theorem uq_qrs : ∀ (rs : List Nat) (t : List UInt8), (∀ r ∈ rs, isRune r) → uq 39 (qrs rs ++ 39 :: t) = some (encs rs, (qrs rs).length + 1)
  | [], t, _ => by
    show uq 39 (39 :: t) = _
    rw [uq_step _ _ (by simp), if_pos (by simp)]
    rfl
  | r :: rs, t, h => by
    have hr : isRune r := h r (by simp)
    obtain ⟨h1, h2, h3⟩ := rq_qr r hr (qrs rs ++ 39 :: t)
    rw [qrs_cons, List.append_assoc, uq_step _ _ (by intro e; have := congrArg List.length e; rw [List.length_append] at this; simp at this), if_neg h2, h1]
    simp only
    rw [if_neg (by omega), List.drop_left, uq_qrs rs t (fun x hx => h x (by simp [hx]))]
    simp only [Option.map_some, encs_cons, List.length_append, Option.some.injEq, Prod.mk.injEq, true_and]
    omega
theorem quo_len (l : List UInt8) : (quo l).length = (qrs (rl l)).length + 2 := by simp [quo]
/-- A quoted text, and whatever stands behind it. -/
theorem unq_quo (l t : List UInt8) : unq (quo l ++ t) = some (mend l, (quo l).length) := by
  have e : quo l ++ t = 39 :: (qrs (rl l) ++ 39 :: t) := by simp [quo]
  rw [e]
  unfold unq
  rw [if_neg (by simp), if_pos (by simp)]
  simp only [List.getD_cons_zero, List.drop_succ_cons, List.drop_zero]
  rw [uq_qrs _ _ (rl_isRune l)]
  simp only [Option.map_some, quo_len, mend, Option.some.injEq, Prod.mk.injEq, true_and]
  omega

/-- A rune's bytes, cut, begin none. -/
theorem enc_cut_bad (r : Nat) (hr : isRune r) (c : Nat) (h0 : 0 < c) (hc : c < (enc r).length) : bad ((enc r).take c) := by
  by_cases hb : bad ((enc r).take c)
  · exact hb
  · exfalso
    have hl : ((enc r).take c).length = c := by rw [List.length_take]; omega
    have hne : (enc r).take c ≠ [] := by intro h; rw [h] at hl; simp at hl; omega
    have he := enc_decode _ hne hb
    have hle := decodeL_le _ hne
    have hru := decodeL_isRune ((enc r).take c)
    rw [hl] at hle
    rw [List.take_take, Nat.min_eq_left hle] at he
    have hsp : enc r = enc (decodeL ((enc r).take c)).1 ++ (enc r).drop (decodeL ((enc r).take c)).2 := by rw [he, List.take_append_drop]
    have h1 := decode_enc _ hru ((enc r).drop (decodeL ((enc r).take c)).2)
    rw [← hsp] at h1
    have h2 := decode_enc r hr []
    rw [List.append_nil, h1] at h2
    simp only [Prod.mk.injEq] at h2
    have h3 : (enc (decodeL ((enc r).take c)).1).length ≤ c := by rw [he, List.length_take]; omega
    omega
theorem rh_short (l : List UInt8) (n : Nat) (h : l.length < n) : rh l n = none := by unfold rh; rw [if_pos h]
theorem re_one : re [92] = (0, 0) := by decide
/-- A rune within quotes, cut, says nothing. -/
theorem rq_cut (r : Nat) (hr : isRune r) (c : Nat) (h0 : 0 < c) (hc : c < (qr r).length) : (rq ((qr r).take c)).2 = 0 ∧ ((qr r).take c).getD 0 0 ≠ 39 := by
  have hhead : ((qr r).take c).getD 0 0 = (qr r).getD 0 0 := by simp [List.getD, List.getElem?_take_of_lt h0]
  have h39 := (rq_qr r hr []).2.1
  rw [List.append_nil] at h39
  refine ⟨?_, by rw [hhead]; exact h39⟩
  clear h39 hhead
  have key : ∀ (b : UInt8) (ds : List UInt8) (k : Nat), ds.length = k → (∀ l : List UInt8, l.length < k → (re (92 :: b :: l)).2 = 0) → c < ([92, b] ++ ds).length → (rq (([92, b] ++ ds).take c)).2 = 0 := by
    intro b ds k hk hre hc
    match c, h0 with
    | 1, _ => show (rq [92]).2 = 0; rw [rq_92, re_one]
    | c + 2, _ =>
      show (rq (92 :: b :: ds.take c)).2 = 0
      rw [rq_92]
      refine hre _ ?_
      rw [List.length_take]
      simp at hc
      omega
  have short : ∀ (x y : UInt8), c < [x, y].length → (rq ([92, y].take c)).2 = 0 := by
    intro x y hc
    have : c = 1 := by simp at hc; omega
    subst this
    show (rq [92]).2 = 0
    rw [rq_92, re_one]
  unfold qr at hc ⊢
  by_cases h1 : r = 39 ∨ r = 92
  · rw [if_pos h1] at hc ⊢
    exact short 92 _ hc
  · rw [if_neg h1] at hc ⊢
    by_cases h2 : r = 10
    · rw [if_pos h2] at hc ⊢
      exact short 92 _ hc
    · rw [if_neg h2] at hc ⊢
      by_cases h3 : r = 9
      · rw [if_pos h3] at hc ⊢
        exact short 92 _ hc
      · rw [if_neg h3] at hc ⊢
        by_cases h4 : ctl r = true
        · rw [if_pos h4] at hc ⊢
          exact key 120 (hxs 2 r) 2 (hxs_len 2 r) (fun l hl => by rw [re_x, rh_short l 2 hl]; rfl) hc
        · rw [if_neg h4] at hc ⊢
          by_cases h5 : hidden r = true
          · rw [if_pos h5] at hc ⊢
            exact key 117 (hxs 4 r) 4 (hxs_len 4 r) (fun l hl => by rw [re_u, rh_short l 4 hl]; rfl) hc
          · rw [if_neg h5] at hc ⊢
            rw [rq_bad _ (enc_cut_bad r hr c h0 hc)]
/-- Runes within quotes that are cut have no end. -/
theorem uq_cut : ∀ (rs : List Nat) (c : Nat), (∀ r ∈ rs, isRune r) → c ≤ (qrs rs).length → uq 39 ((qrs rs).take c) = none
  | [], c, _, _ => by simp [qrs, uq_nil]
  | r :: rs, c, h, hc => by
    have hr : isRune r := h r (by simp)
    by_cases h0 : c = 0
    · subst h0; simp [uq_nil]
    · rw [qrs_cons] at hc ⊢
      rw [List.length_append] at hc
      by_cases hlt : c < (qr r).length
      · obtain ⟨h1, h2⟩ := rq_cut r hr c (by omega) hlt
        have e : (qr r ++ qrs rs).take c = (qr r).take c := by rw [List.take_append_of_le_length (by omega)]
        rw [e, uq_step _ _ (List.length_pos_iff.1 (by rw [List.length_take]; omega)), if_neg h2, if_pos h1]
      · have e : (qr r ++ qrs rs).take c = qr r ++ (qrs rs).take (c - (qr r).length) := by rw [List.take_append, List.take_of_length_le (by omega)]
        obtain ⟨h1, h2, h3⟩ := rq_qr r hr ((qrs rs).take (c - (qr r).length))
        rw [e, uq_step _ _ (List.length_pos_iff.1 (by rw [List.length_append]; omega)), if_neg h2, h1]
        simp only
        rw [if_neg (by omega), List.drop_left, uq_cut rs _ (fun x hx => h x (by simp [hx])) (by omega)]
        rfl
/-- A quoted text that is cut is none. -/
theorem unq_cut (l : List UInt8) (c : Nat) (hc : c < (quo l).length) : unq ((quo l).take c) = none := by
  rw [quo_len] at hc
  unfold quo
  cases c with
  | zero => rfl
  | succ c =>
    have e : (39 :: (qrs (rl l) ++ [39])).take (c + 1) = 39 :: (qrs (rl l)).take c := by
      rw [List.take_succ_cons, List.take_append_of_le_length (by omega)]
    rw [e]
    unfold unq
    rw [if_neg (by simp), if_pos (by simp)]
    simp only [List.getD_cons_zero, List.drop_succ_cons, List.drop_zero]
    rw [uq_cut _ _ (rl_isRune l) (by omega)]
    rfl
/-- Quotes of unlike good texts are unlike. -/
theorem quo_inj (l m : List UInt8) (hl : validD l = true) (hm : validD m = true) : quo m = quo l ↔ m = l := by
  constructor
  · intro h
    have h1 := unq_quo l []
    have h2 := unq_quo m []
    rw [List.append_nil] at h1 h2
    rw [h, h1] at h2
    simp only [Option.some.injEq, Prod.mk.injEq] at h2
    rw [mend_of_valid l hl, mend_of_valid m hm] at h2
    exact h2.1.symm
  · intro h; rw [h]
theorem qr_len (r : Nat) : (qr r).length ≤ 6 := by
  have h := (enc_len r).2
  unfold qr
  repeat' split
  all_goals simp [hxs_len]
  all_goals omega
theorem qrs_len : ∀ rs : List Nat, (qrs rs).length ≤ 6 * rs.length
  | [] => by simp [qrs]
  | r :: rs => by
    rw [qrs_cons, List.length_append, List.length_cons]
    have := qrs_len rs
    have := qr_len r
    omega
theorem quo_le (l : List UInt8) : (quo l).length ≤ 6 * l.length + 2 := by
  rw [quo_len]
  have := qrs_len (rl l)
  have := rl_le l
  omega
end Go.Proofs.YtgillafjccgkdaaDoor
