/-
  What the reference's digits, escape and width do.
  What the reference's escape, width and Unquote do.
  What the reference's Unquote does; the walk of LettersUnquote.
-/
import Derived.Test.YtgillafjccgkdaaDoorLeAwake
import Derived.Test.YtgillafjccgkdaaDoorLeBytes
namespace Go.Proofs.YtgillafjccgkdaaDoor
open Go.RowKit Go.Lib

/-- An option's number; -1: none. -/
def optI : Option Nat → Int
  | some v => (v : Int)
  | none => -1

theorem hexd_dec {c : Nat} (h0 : 48 ≤ c) (h1 : c ≤ 57) : hexd c = some (c - 48) := by unfold hexd; rw [if_pos ⟨h0, h1⟩]
theorem hexd_low {c : Nat} (h0 : 97 ≤ c) (h1 : c ≤ 102) : hexd c = some (c - 87) := by unfold hexd; rw [if_neg (by omega), if_pos ⟨h0, h1⟩]
theorem hexd_up {c : Nat} (h0 : 65 ≤ c) (h1 : c ≤ 70) : hexd c = some (c - 55) := by unfold hexd; rw [if_neg (by omega), if_neg (by omega), if_pos ⟨h0, h1⟩]
theorem hexd_no {c : Nat} (h0 : ¬ (48 ≤ c ∧ c ≤ 57)) (h1 : ¬ (97 ≤ c ∧ c ≤ 102)) (h2 : ¬ (65 ≤ c ∧ c ≤ 70)) : hexd c = none := by unfold hexd; rw [if_neg h0, if_neg h1, if_neg h2]
theorem rh_eq (l : List UInt8) (n : Nat) (h : n ≤ l.length) : rh l n = hexs 0 (l.take n) := by unfold rh; rw [if_neg (by omega)]
theorem drop_take_step (l : List UInt8) (a j n : Nat) (hj : j < n) (hn : a + n ≤ l.length) : ((l.drop a).take n).drop j = (l.getD (a + j) 0) :: ((l.drop a).take n).drop (j + 1) := by
  have hl : ((l.drop a).take n).length = n := by rw [List.length_take, List.length_drop]; omega
  rw [List.drop_eq_getElem_cons (by omega)]
  congr 1
  simp [List.getD, List.getElem?_eq_getElem (show a + j < l.length by omega)]

theorem idx_run (s : ByteArray) (i : Int) (n : Nat) (h : n < s.size) (hi : i = (n : Int)) (wx : World) : (Instr.index 9 (.string s) (.int .i64 i)).run Tryd.prog wx = .ok (.int .u8 (((s[n]'h).toNat : Nat) : Int)) wx := by
  subst hi
  rw [run_index_string wx 9 s .i64 _ Tryd.underlying9, dif_pos ⟨by omega, by omega⟩]
  rfl
theorem sub_run (s : ByteArray) (i j : Int) (a b : Nat) (hi : i = (a : Int)) (hj : j = (b : Int)) (h1 : a ≤ b) (h2 : b ≤ s.size) (wx : World) : (Instr.slice 9 (.string s) (some (.int .i64 i)) (some (.int .i64 j)) none).run Tryd.prog wx = .ok (.string (s.extract a b)) wx := by
  subst hi hj
  rw [run_slice_string wx 9 s .i64 .i64 _ _ Tryd.underlying9 (by omega) (by omega) (by omega)]
  rfl

/-- What the reference's escape answers. -/
def escR (p : Nat × Nat) : Value := if p.2 = 0 then .tuple #[.string ⟨#[]⟩, .int .i64 0] else .tuple #[.string ⟨(enc p.1).toArray⟩, .int .i64 ((p.2 : Int) - 1)]
theorem escR_zero : escR (0, 0) = .tuple #[.string ⟨#[]⟩, .int .i64 0] := rfl
theorem extract_one (s : ByteArray) (a : Nat) (h : a < s.size) : s.extract a (a + 1) = ⟨#[s[a]'h]⟩ := by
  have e : (s.extract a (a + 1)).data.toList = [s[a]'h] := by
    have hl : a < s.data.toList.length := by rw [str_len]; exact h
    rw [extract_sub, List.drop_eq_getElem_cons hl, List.take_succ_cons, List.take_zero]
    rfl
  have e2 : (s.extract a (a + 1)).data = #[s[a]'h] := by
    rw [← Array.toList_inj]
    exact e
  cases hx : s.extract a (a + 1) with
  | mk d => rw [hx] at e2; subst e2; rfl
theorem enc_byte (x : UInt8) (h : x.toNat < 128) : enc x.toNat = [x] := by rw [enc_ascii _ h]; simp

end Go.Proofs.YtgillafjccgkdaaDoor
namespace Go.Proofs.YtgillafjccgkdaaDoor
open Go.RowKit Go.Lib

theorem drop_get (l : List UInt8) (a k : Nat) : (l.drop a).getD k 0 = l.getD (a + k) 0 := by simp [List.getD, List.getElem?_drop]

/-- Do the first n bytes make one rune? -/
def oneAt (l : List UInt8) (n : Nat) : Prop := (rl (l.take n)).length = 1 ∧ mend (l.take n) = l.take n
theorem oneAt_iff (l : List UInt8) (n : Nat) (h0 : 1 ≤ n) (hn : n ≤ l.length) : oneAt l n ↔ (¬ bad l ∧ (decodeL l).2 = n) := by
  have hne : l ≠ [] := by intro h; subst h; simp at hn; omega
  constructor
  · rintro ⟨h1, h2⟩
    have htl : (l.take n).length = n := by rw [List.length_take]; omega
    have htne : l.take n ≠ [] := by intro h; rw [h] at htl; simp at htl; omega
    have hst := rl_step (l.take n) htne
    rw [hst, List.length_cons] at h1
    have hrest : rl ((l.take n).drop (decodeL (l.take n)).2) = [] := List.eq_nil_of_length_eq_zero (by omega)
    have hm : mend (l.take n) = enc (decodeL (l.take n)).1 := by
      unfold mend
      rw [hst, hrest]
      simp [encs]
    rw [hm] at h2
    have hr := decodeL_isRune (l.take n)
    have hl : l = enc (decodeL (l.take n)).1 ++ l.drop n := by rw [h2, List.take_append_drop]
    have hd := decode_enc _ hr (l.drop n)
    have hb := enc_not_bad _ hr (l.drop n)
    rw [← hl] at hd hb
    refine ⟨hb, ?_⟩
    rw [hd, h2, htl]
  · rintro ⟨hb, hw⟩
    have he := enc_decode l hne hb
    rw [hw] at he
    have hr := decodeL_isRune l
    have h1 : rl (l.take n) = [(decodeL l).1] := by
      have := rl_encs [(decodeL l).1] (by simpa using hr)
      rw [← he]
      simpa [encs] using this
    refine ⟨by rw [h1]; rfl, ?_⟩
    unfold mend
    rw [h1]
    simpa [encs] using he
/-- How many bytes the rune at the head has; 0: none begins there. -/
def wd (l : List UInt8) : Nat := if bad l then 0 else (decodeL l).2
theorem OwnB.below {B : Nat} {w w' : World} {v : Value} {bs : List UInt8} (h : OwnB B w v bs) (hb : Below w.heap.size w w') : OwnB B w' v bs := by
  refine ⟨h.1, ?_⟩
  rcases h.2 with h4 | ⟨g, cap, cur, e1, e2, e3, e4⟩
  · exact .inl h4
  · exact .inr ⟨g, cap, cur, e1, e2, (hb.block g (Array.getElem?_eq_some_iff.1 e3).1).trans e3, e4⟩

end Go.Proofs.YtgillafjccgkdaaDoor
namespace Go.Proofs.YtgillafjccgkdaaDoor
open Go.RowKit Go.Lib

theorem decodeL_ascii0 (l : List UInt8) (h : (l.getD 0 0).toNat < 128) : decodeL l = ((l.getD 0 0).toNat, 1) := by
  rw [decodeL_N, decodeN_ascii _ _ _ _ _ h]
theorem decodeL_high0 (l : List UInt8) (h : 128 ≤ (l.getD 0 0).toNat) : 128 ≤ (decodeL l).1 := by
  rw [decodeL_N]
  have k0 := (l.getD 0 0).toNat_lt
  rcases decodeN_shape l.length (l.getD 0 0).toNat (l.getD 1 0).toNat (l.getD 2 0).toNat (l.getD 3 0).toNat with ⟨c, e⟩ | ⟨c1, c2, c3, cv, e⟩ | ⟨c1, c2, c3, c4, cv, cs, e⟩ | ⟨c1, c2, c3, c4, c5, cv, cw, e⟩ | e
  all_goals (rw [e]; dsimp only; omega)
theorem ctl_true {r : Nat} (h : r < 32 ∨ r = 127) : ctl r = true := decide_eq_true h
theorem ctl_false {r : Nat} (h : ¬ (r < 32 ∨ r = 127)) : ctl r = false := decide_eq_false h
theorem re_width (l : List UInt8) : (re l).2 = 0 ∨ 2 ≤ (re l).2 := by
  have hn : ∀ v most n, 2 ≤ n → (num v most n).2 = 0 ∨ 2 ≤ (num v most n).2 := fun v most n hn => by
    unfold num
    repeat' split
    all_goals simp
    all_goals omega
  unfold re
  repeat' split
  all_goals first | exact hn _ _ _ (by omega) | (simp; done)
theorem escR_some (r d : Nat) (h : 2 ≤ d) : escR (r, d) = .tuple #[.string ⟨(enc r).toArray⟩, .int .i64 ((d : Int) - 1)] := by
  unfold escR
  rw [if_neg (by show ¬ d = 0; omega)]
/-- The first rune within quotes by its first byte: a backslash. -/
theorem rq_back (l : List UInt8) (h : (l.getD 0 0).toNat = 92) : rq l = re l := by
  have hd := decodeL_ascii0 l (by omega)
  rw [rq_eq l _ _ hd, if_neg (by omega), if_neg (by rw [ctl_false (by omega)]; simp), if_pos h]
theorem rq_ctl (l : List UInt8) (h : (l.getD 0 0).toNat < 32 ∨ (l.getD 0 0).toNat = 127) : rq l = (0, 0) := by
  have hd := decodeL_ascii0 l (by omega)
  rw [rq_eq l _ _ hd, if_neg (by omega), if_pos (ctl_true h)]
theorem rq_bad (l : List UInt8) (h : bad l) : rq l = (0, 0) := by unfold rq; rw [if_pos h]
theorem rq_plain (l : List UInt8) (h1 : ¬ ((l.getD 0 0).toNat < 32 ∨ (l.getD 0 0).toNat = 127)) (h2 : (l.getD 0 0).toNat ≠ 92) (hb : ¬ bad l) : rq l = decodeL l := by
  unfold rq
  rw [if_neg hb]
  by_cases h : (l.getD 0 0).toNat < 128
  · have hd := decodeL_ascii0 l h
    rw [hd]
    rw [if_neg (by rw [ctl_false h1]; simp), if_neg h2]
  · have := decodeL_high0 l (by omega)
    rw [if_neg (by rw [ctl_false (by omega)]; simp), if_neg (by omega)]

end Go.Proofs.YtgillafjccgkdaaDoor
