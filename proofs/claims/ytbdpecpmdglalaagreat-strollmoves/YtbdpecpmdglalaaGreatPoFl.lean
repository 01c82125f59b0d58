/-
  Entries of the hashes of a list, numbered, with values. No program.
-/
import Derived.Test.YtbdpecpmdglalaaGreatPoMath
import Derived.Test.YtbdpecpmdglalaaGreatBas
namespace Go.Proofs.YtbdpecpmdglalaaGreat
open Go.RowKit Go.WideShapes

/-- Entries of the hashes of l, numbered, with these values. -/
structure Fl (l : List Int) (vs : Nat → Int) (i : Nat) (t : Tb) : Prop where
  len : t.es.length = i
  at' : ∀ n, n < i → nth t.es n = ⟨true, l[n]?.getD 0, (n : Int), vs n, (n : Int)⟩
  dead : deadN t.es = 0
  births : t.births = i
  made : t.made ≤ i + 1
  turn : t.turn = i
  born : t.Born
theorem Fl.new (l : List Int) (vs : Nat → Int) : Fl l vs 0 Tb.new := ⟨rfl, fun _ h => absurd h (Nat.not_lt_zero _), rfl, rfl, Nat.le_refl _, rfl, Go.Proofs.YtbdpecpmdglalaaGreat.Born.nil _⟩
theorem Fl.add {l : List Int} {vs : Nat → Int} {i : Nat} {t : Tb} (h : Fl l vs i t) (ok : t.Ok) (hi : i < 100000) : Fl l vs (i + 1) (t.add (l[i]?.getD 0) (i : Int) (vs i)) := by
  have r := t.add_rest (l[i]?.getD 0) (i : Int) (vs i)
  have ok' := ok.add (l[i]?.getD 0) (i : Int) (vs i) (by rw [h.births]; exact hi)
  have e := t.add_es (l[i]?.getD 0) (i : Int) (vs i)
  rw [liveL_all h.dead, h.births] at e
  have hf := ok'.few
  have hl := liveL_len (t.add (l[i]?.getD 0) (i : Int) (vs i)).es
  rw [r.1, h.births] at hf
  have hlen : (liveL (t.add (l[i]?.getD 0) (i : Int) (vs i)).es).length = i + 1 := by rw [e]; simp [h.len]
  have hd : deadN (t.add (l[i]?.getD 0) (i : Int) (vs i)).es = 0 := by omega
  have he := (liveL_all hd).symm.trans e
  refine ⟨by rw [he]; simp [h.len], fun n hn => ?_, hd, by rw [r.1, h.births], by have := h.made; omega, by rw [r.2.2.2, h.turn], h.born.add _ _ _⟩
  rw [he]
  rcases Nat.lt_or_ge n i with z | z
  · rw [nth_app_lt (by rw [h.len]; exact z)]
    exact h.at' n z
  · have : n = i := by omega
    subst this
    have := nth_app_eq t.es ⟨true, l[n]?.getD 0, (n : Int), vs n, (n : Int)⟩
    rw [h.len] at this
    exact this
theorem Fl.of {l : List Int} {vs : Nat → Int} {i : Nat} {t : Tb} (h : Fl l vs i t) (u : Int) (n : Nat) : Of t.es u n ↔ n < i ∧ l[n]?.getD 0 = u := by
  constructor
  · rintro ⟨h1, _, h3⟩
    rw [h.len] at h1
    rw [h.at' n h1] at h3
    exact ⟨h1, h3⟩
  · rintro ⟨h1, h2⟩
    rw [Of, h.at' n h1]
    exact ⟨by rw [h.len]; exact h1, rfl, h2⟩
theorem Fl.key {l : List Int} {vs : Nat → Int} {i : Nat} {t : Tb} (h : Fl l vs i t) {n : Nat} (hn : n < i) : (nth t.es n).key = (n : Int) := by rw [h.at' n hn]
theorem Fl.live {l : List Int} {vs : Nat → Int} {i : Nat} {t : Tb} (h : Fl l vs i t) : t.live = i := by rw [Tb.live, h.dead, h.len]; omega
theorem Fl.fit {l : List Int} {vs : Nat → Int} {i v : Nat} {t : Tb} (h : Fl l vs i t) (hi : i ≤ 50000) (hv : v ≤ 1000000) : Fit t v := ⟨by have := h.made; omega, by rw [h.turn]; omega, by rw [h.births]; omega, by omega⟩
theorem Fl.putv {l : List Int} {vs : Nat → Int} {i : Nat} {t : Tb} (h : Fl l vs i t) {k : Nat} (hk : k < i) (x : Int) : Fl l (upd vs k x) i (t.putv k x) := by
  have hkl : k < t.es.length := by rw [h.len]; exact hk
  have hlv : (nth t.es k).live = true := by rw [h.at' k hk]
  refine ⟨by show (t.es.set k _).length = i; rw [List.length_set]; exact h.len, fun n hn => ?_, ?_, h.births, h.made, h.turn, h.born.putv k x⟩
  · show nth (t.es.set k _) n = _
    rw [nth_set hkl]
    unfold upd
    by_cases e : n = k
    · subst e
      rw [if_pos rfl, if_pos rfl, h.at' n hk]
    · rw [if_neg e, if_neg e]
      exact h.at' n hn
  · show deadN (t.es.set k _) = 0
    have := deadN_put t.es k ⟨(nth t.es k).live, (nth t.es k).hash, (nth t.es k).key, x, (nth t.es k).birth⟩ hlv hlv
    exact this.trans h.dead
theorem Fl.congr {l : List Int} {vs vs' : Nat → Int} {i : Nat} {t : Tb} (h : Fl l vs i t) (e : ∀ n, n < i → vs' n = vs n) : Fl l vs' i t := ⟨h.len, fun n hn => by rw [h.at' n hn, e n hn], h.dead, h.births, h.made, h.turn, h.born⟩
end Go.Proofs.YtbdpecpmdglalaaGreat
