/-
  Copy.
-/
import Derived.Test.YtpigbnlapcndgaaGreatDta
namespace Go.Proofs.YtpigbnlapcndgaaGreat
open Go.RowKit Go.WideShapes

/-- The first k with births of their own. -/
def reb (es : List En) (k : Nat) : List En := (List.range es.length).map fun i => if i < k then ⟨(nth es i).live, (nth es i).hash, (nth es i).key, (nth es i).value, (i : Int)⟩ else nth es i
theorem reb_len (es : List En) (k : Nat) : (reb es k).length = es.length := by simp [reb]
theorem reb_nth (es : List En) (k i : Nat) (hi : i < es.length) : nth (reb es k) i = if i < k then ⟨(nth es i).live, (nth es i).hash, (nth es i).key, (nth es i).value, (i : Int)⟩ else nth es i := by
  conv => lhs; unfold nth
  rw [List.getD_eq_getElem?_getD]
  simp [reb, hi]
theorem ext_nth {a b : List En} (hl : a.length = b.length) (h : ∀ i, i < a.length → nth a i = nth b i) : a = b := by
  apply List.ext_getElem hl
  intro i h1 h2
  have := h i h1
  unfold nth at this
  rw [List.getD_eq_getElem?_getD, List.getD_eq_getElem?_getD, List.getElem?_eq_getElem h1, List.getElem?_eq_getElem h2] at this
  exact this
theorem reb_zero (es : List En) : reb es 0 = es := ext_nth (reb_len _ _) fun i hi => by rw [reb_len] at hi; rw [reb_nth _ _ _ hi, if_neg (Nat.not_lt_zero _)]
theorem reb_set (es : List En) (k : Nat) (hk : k < es.length) : (reb es k).set k ⟨(nth es k).live, (nth es k).hash, (nth es k).key, (nth es k).value, (k : Int)⟩ = reb es (k + 1) := by
  refine ext_nth (by rw [List.length_set, reb_len, reb_len]) fun i hi => ?_
  rw [List.length_set, reb_len] at hi
  rw [nth_set (by rw [reb_len]; exact hk), reb_nth _ _ _ hi, reb_nth _ _ _ hi]
  by_cases e : i = k
  · subst e
    rw [if_pos rfl, if_pos (by omega)]
  · rw [if_neg e]
    by_cases h2 : i < k
    · rw [if_pos h2, if_pos (by omega)]
    · rw [if_neg h2, if_neg (by omega)]
/-- The log of a copy's index. -/
def cplog (n : Nat) : Nat := logF ((3 * n + 1) / 2) 20 3
/-- A copy. -/
noncomputable def Tb.cp (t : Tb) : Tb := ⟨reb (liveL t.es) (liveL t.es).length, cplog (liveL t.es).length, layN (reb (liveL t.es) (liveL t.es).length) (cplog (liveL t.es).length) (liveL t.es).length, (liveL t.es).length, 1, 0⟩
theorem cplog_ok {n : Nat} (hn : n ≤ 100000) : 3 ≤ cplog n ∧ cplog n ≤ 20 ∧ n ≤ rm (2 ^ cplog n) := by
  obtain ⟨a1, a2, a3, a4⟩ := logF_step ((3 * n + 1) / 2) 20 3 (Nat.le_trans (by omega : (3 * n + 1) / 2 ≤ 2 ^ 20) (by decide))
  refine ⟨a2, ?_, ?_⟩
  · rcases Nat.lt_or_ge 20 (cplog n) with e | e
    · have h1 := a4 20 (by omega) e
      have h2 : (2 : Nat) ^ 20 = 1048576 := by decide
      omega
    · exact e
  · have : (3 * n + 1) / 2 ≤ 2 ^ cplog n := Nat.le_of_not_lt a3
    unfold rm
    omega
theorem reb_live {es : List En} (h : ∀ n, n < es.length → (nth es n).live = true) (k n : Nat) (hn : n < es.length) : (nth (reb es k) n).live = true := by
  rw [reb_nth _ _ _ hn]
  split
  · exact h n hn
  · exact h n hn
theorem Tb.Ok.cp {t : Tb} (h : t.Ok) : t.cp.Ok := by
  have hl : (liveL t.es).length ≤ 100000 := by have := liveL_len t.es; have := h.few; have := h.all; omega
  obtain ⟨h1, h2, h3⟩ := cplog_ok hl
  refine ⟨?_, ⟨h1, h2⟩, by show (reb _ _).length ≤ (liveL t.es).length; rw [reb_len]; exact Nat.le_refl _, hl⟩
  have := layN_inv (reb (liveL t.es) (liveL t.es).length) (cplog (liveL t.es).length) (fun n hn => reb_live (fun n hn => liveL_nth _ n hn) _ n (by rwa [reb_len] at hn)) (by rw [reb_len]; exact h3) (liveL t.es).length (by rw [reb_len]; exact Nat.le_refl _)
  rw [List.take_of_length_le (by rw [reb_len]; exact Nat.le_refl _)] at this
  exact this
theorem Tb.cp_live (t : Tb) : t.cp.live = (liveL t.es).length := by
  rw [Tb.live_eq]
  show (liveL (reb (liveL t.es) (liveL t.es).length)).length = _
  have h1 := liveL_len (reb (liveL t.es) (liveL t.es).length)
  rw [deadN_live _ (fun e he => by
    obtain ⟨n, hn, hx⟩ : ∃ n, n < (reb (liveL t.es) (liveL t.es).length).length ∧ nth (reb (liveL t.es) (liveL t.es).length) n = e := by
      obtain ⟨n, hn, he⟩ := List.getElem_of_mem he
      exact ⟨n, hn, by unfold nth; rw [List.getD_eq_getElem?_getD, List.getElem?_eq_getElem hn, Option.getD_some, he]⟩
    rw [← hx]
    exact reb_live (fun n hn => liveL_nth _ n hn) _ n (by rwa [reb_len] at hn)), reb_len] at h1
  omega
/-- The head of a copy under way. -/
def cF (mv ev : Value) (l b : Nat) : Nat → Value
  | 0 => mv
  | 1 => .pointer none
  | 2 => ev
  | 3 => .int .i64 (l : Int)
  | 4 => .int .i64 (b : Int)
  | _ => .int .i64 0
end Go.Proofs.YtpigbnlapcndgaaGreat
