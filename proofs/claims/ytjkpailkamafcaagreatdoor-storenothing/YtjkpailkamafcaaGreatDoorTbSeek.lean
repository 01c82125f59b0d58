/-
  A search along a trail: it tells the live entries of its hash, all of them, each once, oldest first. No program.
-/
import Derived.Test.YtjkpailkamafcaaGreatDoorTbInv
namespace Go.Proofs.YtjkpailkamafcaaGreatDoor

/-- A live entry of that hash. -/
def Of (es : List En) (u : Int) (n : Nat) : Prop := n < es.length ∧ (nth es n).live = true ∧ (nth es n).hash = u
/-- Ahead of place i of the trail of u: the entries of u that were met are those up to last. -/
def Told (es : List En) (L : Nat) (c : Nat → Int) (u : Int) (i : Nat) (last : Int) : Prop := ∀ n, Of es u n → ∀ p, Pos es L c n p → (p < i ↔ (n : Int) ≤ last)
theorem told_zero (es : List En) (L : Nat) (c : Nat → Int) (u : Int) : Told es L c u 0 (-1) := fun n _ p _ => by omega
/-- An entry of u at place i, above last: it is the next one. -/
theorem told_yes {es : List En} {L : Nat} {c : Nat → Int} {u : Int} {i : Nat} {last : Int} (hI : Inv es L c) (hT : Told es L c u i last) {v : Nat} (hc : c (trl (uw u) L i) = (v : Int)) (hv : last < (v : Int)) (ho : Of es u v) :
    Told es L c u (i + 1) (v : Int) ∧ ∀ n, Of es u n → last < (n : Int) → v ≤ n := by
  obtain ⟨pv, hpv⟩ := hI.pos v ho.1 ho.2.1
  have hpi : pv = i := by
    rcases Nat.lt_trichotomy pv i with e | e | e
    · have := (hT v ho pv hpv).1 e; omega
    · exact e
    · have := (hpv.2 i e).2; rw [ho.2.2, hc] at this; omega
  subst hpi
  have key : ∀ n, Of es u n → ∀ p, Pos es L c n p → (p < pv + 1 ↔ (n : Int) ≤ (v : Int)) := by
    intro n hn p hp
    constructor
    · intro h
      rcases Nat.lt_or_ge p pv with e | e
      · have := (hT n hn p hp).1 e; omega
      · obtain rfl : p = pv := by omega
        have h1 := hp.1
        rw [hn.2.2, hc] at h1
        omega
    · intro h
      rcases Nat.lt_trichotomy p pv with e | e | e
      · omega
      · omega
      · have := (hp.2 pv e).2
        rw [hn.2.2, hc] at this
        omega
  refine ⟨key, fun n hn hl => ?_⟩
  obtain ⟨p, hp⟩ := hI.pos n hn.1 hn.2.1
  rcases Nat.lt_or_ge n v with e | e
  · have h1 := (key n hn p hp).2 (by omega)
    rcases Nat.lt_or_ge p pv with f | f
    · have := (hT n hn p hp).1 f; omega
    · obtain rfl : p = pv := by omega
      have h2 := hp.1
      rw [hn.2.2, hc] at h2
      omega
  · exact e
/-- No such entry at place i. -/
theorem told_no {es : List En} {L : Nat} {c : Nat → Int} {u : Int} {i : Nat} {last : Int} (hT : Told es L c u i last) (hn : ∀ v : Nat, c (trl (uw u) L i) = (v : Int) → Of es u v → (v : Int) ≤ last) : Told es L c u (i + 1) last := by
  intro n ho p hp
  constructor
  · intro h
    rcases Nat.lt_or_ge p i with e | e
    · exact (hT n ho p hp).1 e
    · obtain rfl : p = i := by omega
      have h1 := hp.1
      rw [ho.2.2] at h1
      exact hn n h1 ho
  · intro h
    have := (hT n ho p hp).2 h
    omega
/-- An empty cell at place i: all were told. -/
theorem told_end {es : List En} {L : Nat} {c : Nat → Int} {u : Int} {i : Nat} {last : Int} (hI : Inv es L c) (hT : Told es L c u i last) (hc : c (trl (uw u) L i) = -1) : ∀ n, Of es u n → (n : Int) ≤ last := by
  intro n ho
  obtain ⟨p, hp⟩ := hI.pos n ho.1 ho.2.1
  refine (hT n ho p hp).1 ?_
  rcases Nat.lt_trichotomy p i with e | e | e
  · exact e
  · subst e
    have h1 := hp.1
    rw [ho.2.2, hc] at h1
    omega
  · have h1 := (hp.2 i e).1
    rw [ho.2.2] at h1
    exact absurd hc h1
/-- What a cell along the way holds: nothing any more, or a live entry. -/
theorem Inv.cell {es : List En} {L : Nat} {c : Nat → Int} (hI : Inv es L c) (u i : Nat) (h : c (trl u L i) ≠ -1) : c (trl u L i) = -2 ∨ ∃ n : Nat, n < es.length ∧ c (trl u L i) = (n : Int) ∧ (nth es n).live = true := by
  rcases hI.val _ (trl_lt u L i) with a | a | a
  · exact absurd a h
  · exact .inl a
  · exact .inr a
theorem cnt_zero {p : Nat → Bool} {n : Nat} (h : cnt p n = 0) : ∀ x, x < n → p x = false := by
  intro x hx
  cases e : p x with
  | false => rfl
  | true =>
    have h1 := cnt_add (p := fun y => if y = x then false else p y) (q := p) hx (by simp) e (fun y _ hy => by simp [hy])
    omega
/-- Without a dead cell, and with first cells that are all different: each entry stands in its first cell. -/
theorem Inv.once {es : List En} {L : Nat} {c : Nat → Int} (hI : Inv es L c) (hd : deadN es = 0) (hl : ∀ n, n < es.length → (nth es n).live = true)
    (hf : ∀ m n, m < n → n < es.length → trl (uw (nth es m).hash) L 0 ≠ trl (uw (nth es n).hash) L 0) : ∀ n, n < es.length → c (trl (uw (nth es n).hash) L 0) = (n : Int) := by
  intro n
  induction n using Nat.strongRecOn with
  | _ n ih =>
    intro hn
    obtain ⟨p, hp⟩ := hI.pos n hn (hl n hn)
    match p, hp with
    | 0, hp => exact hp.1
    | p + 1, hp =>
      exfalso
      have h0 := hp.2 0 (by omega)
      rcases hI.cell _ 0 h0.1 with a | ⟨m, a1, a2, a3⟩
      · have h1 := hI.dead
        rw [hd] at h1
        have h2 := cnt_zero h1 _ (trl_lt (uw (nth es n).hash) L 0)
        rw [a] at h2
        simp at h2
      · rw [a2] at h0
        have hmn : m < n := by omega
        have h1 := ih m hmn a1
        exact hf m n hmn hn (hI.inj _ _ (trl_lt _ _ _) (trl_lt _ _ _) (by rw [h1]; omega) (by rw [h1, a2]))
end Go.Proofs.YtjkpailkamafcaaGreatDoor
