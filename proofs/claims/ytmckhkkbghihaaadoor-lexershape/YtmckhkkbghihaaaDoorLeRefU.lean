/-
  What the reference's Unquote does; the walk of LettersUnquote.
-/
import Derived.Test.YtmckhkkbghihaaaDoorLeRefE
namespace Go.Proofs.YtmckhkkbghihaaaDoor
open Go.RowKit Go.Lib

theorem decodeL_ascii0 (l : List UInt8) (h : (l.getD 0 0).toNat < 128) : decodeL l = ((l.getD 0 0).toNat, 1) := by
  rw [decodeL_N, decodeN_ascii _ _ _ _ _ h]
theorem decodeL_high0 (l : List UInt8) (h : 128 ≤ (l.getD 0 0).toNat) : 128 ≤ (decodeL l).1 := by
  rw [decodeL_N]
  have k0 := (l.getD 0 0).toNat_lt
  rcases decodeN_shape l.length (l.getD 0 0).toNat (l.getD 1 0).toNat (l.getD 2 0).toNat (l.getD 3 0).toNat with ⟨c, e⟩ | ⟨c1, c2, c3, cv, e⟩ | ⟨c1, c2, c3, c4, cv, cs, e⟩ | ⟨c1, c2, c3, c4, c5, cv, cw, e⟩ | e
  all_goals (rw [e]; dsimp only; omega)
theorem ctl_true {r : Nat} (h : r < 32 ∨ r = 127) : ctl r = true := decide_eq_true h
theorem ctl_false {r : Nat} (h : ¬ (r < 32 ∨ r = 127)) : ctl r = false := decide_eq_false h
theorem re_width (l : List UInt8) : (re l).2 = 0 ∨ 2 ≤ (re l).2 := by
  have hn : ∀ v most n, 2 ≤ n → (num v most n).2 = 0 ∨ 2 ≤ (num v most n).2 := fun v most n hn => by
    unfold num
    repeat' split
    all_goals simp
    all_goals omega
  unfold re
  repeat' split
  all_goals first | exact hn _ _ _ (by omega) | (simp; done)
theorem escR_some (r d : Nat) (h : 2 ≤ d) : escR (r, d) = .tuple #[.string ⟨(enc r).toArray⟩, .int .i64 ((d : Int) - 1)] := by
  unfold escR
  rw [if_neg (by show ¬ d = 0; omega)]
/-- The first rune within quotes by its first byte: a backslash. -/
theorem rq_back (l : List UInt8) (h : (l.getD 0 0).toNat = 92) : rq l = re l := by
  have hd := decodeL_ascii0 l (by omega)
  rw [rq_eq l _ _ hd, if_neg (by omega), if_neg (by rw [ctl_false (by omega)]; simp), if_pos h]
theorem rq_ctl (l : List UInt8) (h : (l.getD 0 0).toNat < 32 ∨ (l.getD 0 0).toNat = 127) : rq l = (0, 0) := by
  have hd := decodeL_ascii0 l (by omega)
  rw [rq_eq l _ _ hd, if_neg (by omega), if_pos (ctl_true h)]
theorem rq_bad (l : List UInt8) (h : bad l) : rq l = (0, 0) := by unfold rq; rw [if_pos h]
theorem rq_plain (l : List UInt8) (h1 : ¬ ((l.getD 0 0).toNat < 32 ∨ (l.getD 0 0).toNat = 127)) (h2 : (l.getD 0 0).toNat ≠ 92) (hb : ¬ bad l) : rq l = decodeL l := by
  unfold rq
  rw [if_neg hb]
  by_cases h : (l.getD 0 0).toNat < 128
  · have hd := decodeL_ascii0 l h
    rw [hd]
    rw [if_neg (by rw [ctl_false h1]; simp), if_neg h2]
  · have := decodeL_high0 l (by omega)
    rw [if_neg (by rw [ctl_false (by omega)]; simp), if_neg (by omega)]

end Go.Proofs.YtmckhkkbghihaaaDoor
