/-
  Lines of one name each, behind blanks: how they are read.
-/
import Derived.Test.YtgillafjccgkdaaDoorLxMath
namespace Go.Proofs.YtgillafjccgkdaaDoor
namespace Lx

/-- A line: blanks and a name. -/
def ln (n : Nat) : List UInt8 := List.replicate n 32 ++ [97, 10]
theorem ln_len (n : Nat) : (ln n).length = n + 2 := by simp [ln]
/-- The bytes L are read, and the reader stands there, whatever comes behind. -/
def Gets (L : List UInt8) (c : Cf) : Prop := ∀ R r, Lex (L ++ R) c r → Lex (L ++ R) cf0 r
theorem gets0 : Gets [] cf0 := fun _ _ h => h
theorem blanks_lex (l : List UInt8) (bs : List Nat) (ts : List Tok) (r : Out) : ∀ (k a b : Nat), a + k ≤ l.length → (∀ j, j < k → l.getD (a + j) 0 = 32) → Lex l ⟨true, b + k, ⟨a + k, 0, bs, ts⟩⟩ r → Lex l ⟨true, b, ⟨a, 0, bs, ts⟩⟩ r
  | 0, _, _, _, _, h => h
  | k + 1, a, b, hl, hg, h => by
    have h0 : l.getD a 0 = 32 := hg 0 (by omega)
    have hs : stp l ⟨true, b, ⟨a, 0, bs, ts⟩⟩ = .inr ⟨true, b + 1, ⟨a + 1, 0, bs, ts⟩⟩ := by
      unfold stp
      rw [if_neg (by show ¬ l.length ≤ a; omega), if_neg (by show ¬ l.getD a 0 = 35; rw [h0]; decide), if_pos h0]
    refine .more hs (blanks_lex l bs ts r k (a + 1) (b + 1) (by omega) (fun j hj => ?_) ?_)
    · have := hg (j + 1) (by omega)
      rw [show a + 1 + j = a + (j + 1) by omega]
      exact this
    · rw [show b + 1 + k = b + (k + 1) by omega, show a + 1 + k = a + (k + 1) by omega]
      exact h
theorem ln_get (L R : List UInt8) (n : Nat) : (∀ j, j < n → (L ++ ln n ++ R).getD (L.length + j) 0 = 32) ∧ (L ++ ln n ++ R).drop (L.length + n) = 97 :: 10 :: R ∧ (L ++ ln n ++ R).drop (L.length + n + 1) = 10 :: R := by
  refine ⟨fun j hj => ?_, ?_, ?_⟩
  · rw [List.append_assoc, List.getD_eq_getElem?_getD, List.getElem?_append_right (by omega), show L.length + j - L.length = j by omega, ln, List.append_assoc, List.getElem?_append_left (by simpa using hj)]
    simp [hj]
  · rw [List.append_assoc, ln, List.append_assoc, ← List.append_assoc L, List.drop_left' (by simp)]
    rfl
  · rw [List.append_assoc, ln, show L ++ (List.replicate n 32 ++ [97, 10] ++ R) = (L ++ List.replicate n 32 ++ [97]) ++ (10 :: R) by simp, List.drop_left' (by simp; omega)]
theorem get_drop (l : List UInt8) (a : Nat) (c : UInt8) (R : List UInt8) (h : l.drop a = c :: R) : l.getD a 0 = c ∧ a < l.length := by
  constructor
  · rw [List.getD_eq_getElem?_getD]
    have := congrArg (fun x => x[0]?) h
    simp at this
    rw [this]
    rfl
  · rcases Nat.lt_or_ge a l.length with z | z
    · exact z
    · rw [List.drop_eq_nil_of_le z] at h
      cases h
theorem prt_a (R : List UInt8) : prt (97 :: 10 :: R) = 1 := by
  have e1 : isP 97 = true := by decide
  have e2 : isP 10 = false := by decide
  simp [prt, e1, e2]
theorem tk_a (R : List UInt8) : tk (97 :: 10 :: R) 0 = .ok (1, [97], 1, 0) := by
  have e1 : isD 97 = false := by decide
  have e2 : isP 97 = true := by decide
  have e3 : wrd [97] = false := by decide
  unfold tk
  rw [prt_a]
  simp [e1, e2, e3]
theorem stl_at {n : Nat} {s s' : St} (h : stl n s = .ok s') : s'.at_ = s.at_ ∧ s'.opn = s.opn := by
  unfold stl at h
  split at h
  · split at h
    · cases h
    · injection h with h; subst h; exact ⟨rfl, rfl⟩
  · split at h
    · injection h with h; subst h; exact ⟨rfl, rfl⟩
    · cases h
/-- A line that fits. -/
theorem Gets.line {L : List UInt8} {bs bs' : List Nat} {ts ts' : List Tok} (h : Gets L ⟨true, 0, ⟨L.length, 0, bs, ts⟩⟩) (n : Nat) (hs : stl n ⟨L.length + n, 0, bs, ts⟩ = .ok ⟨L.length + n, 0, bs', ts'⟩) :
    Gets (L ++ ln n) ⟨true, 0, ⟨(L ++ ln n).length, 0, bs', ts' ++ [⟨1, [97], L.length + n⟩] ++ [⟨6, [], L.length + n + 1⟩]⟩⟩ := by
  intro R r hr
  obtain ⟨g1, g2, g3⟩ := ln_get L R n
  obtain ⟨k1, k2⟩ := get_drop _ _ _ _ g2
  obtain ⟨k3, k4⟩ := get_drop _ _ _ _ g3
  have hf := h (ln n ++ R) r
  rw [← List.append_assoc] at hf
  refine hf ?_
  have hb := blanks_lex (L ++ ln n ++ R) bs ts r n L.length 0 (by omega) g1
  rw [Nat.zero_add] at hb
  refine hb (.more (c' := ⟨false, n, ⟨L.length + n + 1, 0, bs', ts' ++ [⟨1, [97], L.length + n⟩]⟩⟩) ?_ (.more ?_ hr))
  · unfold stp
    rw [if_neg (by show ¬ _ ≤ L.length + n; omega), if_neg (by show ¬ List.getD _ (L.length + n) 0 = 35; rw [k1]; decide), if_neg (by show ¬ List.getD _ (L.length + n) 0 = 32; rw [k1]; decide), if_neg (by show ¬ List.getD _ (L.length + n) 0 = 10; rw [k1]; decide), if_pos rfl]
    simp only [hs]
    unfold tkn
    simp only [g2, tk_a]
  · unfold stp
    rw [if_neg (by show ¬ _ ≤ L.length + n + 1; omega), if_neg (by show ¬ List.getD _ (L.length + n + 1) 0 = 35; rw [k3]; decide), if_neg (by show ¬ List.getD _ (L.length + n + 1) 0 = 32; rw [k3]; decide), if_pos (by show List.getD _ (L.length + n + 1) 0 = 10; rw [k3]), if_pos rfl]
    simp only [Bool.false_eq_true, if_false, List.length_append, ln_len]
    rfl
/-- A line that offends. -/
theorem Gets.bad {L : List UInt8} {bs : List Nat} {ts : List Tok} (h : Gets L ⟨true, 0, ⟨L.length, 0, bs, ts⟩⟩) (n e : Nat) (hs : stl n ⟨L.length + n, 0, bs, ts⟩ = .error e) :
    ∀ R, Lex (L ++ ln n ++ R) cf0 (.bad e (L.length + n)) := by
  intro R
  obtain ⟨g1, g2, g3⟩ := ln_get L R n
  obtain ⟨k1, k2⟩ := get_drop _ _ _ _ g2
  have hf := h (ln n ++ R) (.bad e (L.length + n))
  rw [← List.append_assoc] at hf
  refine hf ?_
  have hb := blanks_lex (L ++ ln n ++ R) bs ts (.bad e (L.length + n)) n L.length 0 (by omega) g1
  rw [Nat.zero_add] at hb
  refine hb (.done ?_)
  unfold stp
  rw [if_neg (by show ¬ _ ≤ L.length + n; omega), if_neg (by show ¬ List.getD _ (L.length + n) 0 = 35; rw [k1]; decide), if_neg (by show ¬ List.getD _ (L.length + n) 0 = 32; rw [k1]; decide), if_neg (by show ¬ List.getD _ (L.length + n) 0 = 10; rw [k1]; decide), if_pos rfl]
  simp only [hs]
/-- The source's end. -/
theorem Gets.fin {L : List UInt8} {bs : List Nat} {ts : List Tok} (h : Gets L ⟨true, 0, ⟨L.length, 0, bs, ts⟩⟩) (hk : ∀ t, ts.getLast? = some t → t.kind = 6) :
    Lex L cf0 (.ok (ts ++ List.replicate (bs.length - 1) ⟨8, [], L.length⟩ ++ [⟨9, [], L.length⟩])) := by
  have hf := h [] (.ok (ts ++ List.replicate (bs.length - 1) ⟨8, [], L.length⟩ ++ [⟨9, [], L.length⟩]))
  rw [List.append_nil] at hf
  refine hf (.done ?_)
  unfold stp
  rw [if_pos (Nat.le_refl _)]
  have hn : nl L.length ts = ts := by
    unfold nl
    cases hg : ts.getLast? with
    | none => rfl
    | some t => simp only; rw [if_pos (Or.inl (hk t hg))]
  simp only [Go.Proofs.YtgillafjccgkdaaDoor.fin, hn]
/-- A state of the walk: what is read so far; or where it offended. -/
def Bk (L : List UInt8) (bad : Int) (bs : List Nat) (ts : List Tok) : Prop :=
  (bad = -1 ∧ Gets L ⟨true, 0, ⟨L.length, 0, bs, ts⟩⟩ ∧ ∀ t, ts.getLast? = some t → t.kind = 6) ∨ (∃ p : Nat, bad = (p : Int) ∧ ∀ R, Lex (L ++ R) cf0 (.bad 103 p))
theorem bk0 : Bk [] (-1) [0] [] := Or.inl ⟨rfl, gets0, fun t h => by simp at h⟩
theorem Bk.more {L : List UInt8} {p : Nat} {bs : List Nat} {ts : List Tok} (h : Bk L (p : Int) bs ts) (M : List UInt8) : Bk (L ++ M) (p : Int) bs ts := by
  rcases h with ⟨h, _⟩ | ⟨q, h1, h2⟩
  · omega
  · exact Or.inr ⟨q, h1, fun R => by rw [List.append_assoc]; exact h2 _⟩
/-- A line that begins a block. -/
theorem Bk.push {L : List UInt8} {bs : List Nat} {ts : List Tok} (h : Bk L (-1) bs ts) (n : Nat) (hn : bs.headD 0 < n) (hb : bs.length ≤ 40) :
    Bk (L ++ ln n) (-1) (n :: bs) (ts ++ [⟨7, [], L.length + n⟩] ++ [⟨1, [97], L.length + n⟩] ++ [⟨6, [], L.length + n + 1⟩]) := by
  rcases h with ⟨_, h, _⟩ | ⟨q, h1, _⟩
  · refine Or.inl ⟨rfl, h.line n ?_, fun t ht => by simp at ht; subst ht; rfl⟩
    unfold stl
    rw [if_pos (show dep ⟨L.length + n, 0, bs, ts⟩ < n from hn), if_neg (by show ¬ 40 < bs.length; omega)]
  · omega
/-- A line that begins none and fits. -/
theorem Bk.fits {L : List UInt8} {bs bs' : List Nat} {ts ts' : List Tok} (h : Bk L (-1) bs ts) (n : Nat) (hn : ¬ bs.headD 0 < n) (hd : ded n (L.length + n) bs ts = (bs', ts')) (he : n = bs'.headD 0) :
    Bk (L ++ ln n) (-1) bs' (ts' ++ [⟨1, [97], L.length + n⟩] ++ [⟨6, [], L.length + n + 1⟩]) := by
  rcases h with ⟨_, h, _⟩ | ⟨q, h1, _⟩
  · refine Or.inl ⟨rfl, h.line n ?_, fun t ht => by simp at ht; subst ht; rfl⟩
    unfold stl
    rw [if_neg (show ¬ dep ⟨L.length + n, 0, bs, ts⟩ < n from hn)]
    simp only [hd]
    rw [if_pos he]
  · omega
theorem Bk.off {L : List UInt8} {bs bs' : List Nat} {ts ts' : List Tok} (h : Bk L (-1) bs ts) (n : Nat) (hn : ¬ bs.headD 0 < n) (hd : ded n (L.length + n) bs ts = (bs', ts')) (he : n ≠ bs'.headD 0) (bs2 : List Nat) (ts2 : List Tok) :
    Bk (L ++ ln n) ((L.length + n : Nat) : Int) bs2 ts2 := by
  rcases h with ⟨_, h, _⟩ | ⟨q, h1, _⟩
  · refine Or.inr ⟨L.length + n, rfl, h.bad n 103 ?_⟩
    unfold stl
    rw [if_neg (show ¬ dep ⟨L.length + n, 0, bs, ts⟩ < n from hn)]
    simp only [hd]
    rw [if_neg he]
  · omega
end Lx
end Go.Proofs.YtgillafjccgkdaaDoor
