/-
  ProbeFull: what a put of the i-th key makes of the dictionary.
-/
import Derived.Test.YtbdpecpmdglalaaGreatPoFl
import Derived.Test.YtbdpecpmdglalaaGreatPrAny
import Derived.Test.YtbdpecpmdglalaaGreatPoEnt
namespace Go.Proofs.YtbdpecpmdglalaaGreat
open Go.RowKit Go.WideShapes

/-- How many pairs there are ahead of the τ-th turn of the i-th key. -/
def mAt (M i τ : Nat) : Nat := if i < M then (if τ = 0 then i else i + 1) else M
theorem mAt_le {M i τ : Nat} (hM : M ≤ 100) (hi : i ≤ 150) : mAt M i τ ≤ 200 := by
  unfold mAt
  by_cases h : i < M
  · rw [if_pos h]
    by_cases h2 : τ = 0
    · rw [if_pos h2]; omega
    · rw [if_neg h2]; omega
  · rw [if_neg h]; omega
theorem mAt_min (M i : Nat) : mAt M i 0 = min M i := by
  unfold mAt
  by_cases h : i < M
  · rw [if_pos h, if_pos rfl]; omega
  · rw [if_neg h]; omega
theorem mAt_next (M i : Nat) : mAt M (i + 1) 0 = mAt M i 2 := by
  unfold mAt
  by_cases q : i < M
  · by_cases q2 : i + 1 < M
    · rw [if_pos q, if_pos q2]; rfl
    · rw [if_pos q, if_neg q2, if_neg (by decide)]; omega
  · rw [if_neg q, if_neg (by omega)]
/-- The dictionary there. -/
def FuD (K : Nat → Prop) (w wr : World) (d : Nat) (l : List Int) (M i τ : Nat) : Prop := ∃ vs t g gi r h ev v, Pd K w.heap.size w wr d g gi r h ev t (M : Int) v ∧ Fl l vs (mAt M i τ) t ∧ v ≤ 2 * i + τ
/-- What a machine that has ended told, and what it left. -/
def FuF (K : Nat → Prop) (w wr : World) (d : Nat) (l : List Int) (M i τ : Nat) (u : Tu) (t : Tb) (v : Nat) : Prop :=
  (M ≤ i ∧ u = ⟨3, 0, false, 0, 0⟩ ∧ ∃ g gi r h ev, Pd K w.heap.size w wr d g gi r h ev t (M : Int) v) ∨
  (i < M ∧ u.kind = 2 ∧ u.found = decide (τ = 1) ∧ FuD K w wr d l M i (τ + 1))
theorem fu_of {K : Nat → Prop} {w wr : World} {d x : Nat} {l : List Int} {vs : Nat → Int} {M i τ : Nat} {t : Tb} {v gl : Nat} {told : Int} {u : Tu} (hgl : gl = 2 ∨ gl = 4) (hτ : τ ≤ 1) (fl : Fl l vs (mAt M i τ) t) (hv : v ≤ 2 * i + τ) (ok : t.Ok) (hi : i ≤ 500) (ht : told < (i : Int))
    (q : LwQ K w.heap.size w d x t (M : Int) v gl (l[i]?.getD 0) (i : Int) (τ : Int) told u wr) :
    (∃ n : Nat, told < (n : Int) ∧ n < i ∧ u = ⟨1, (nth t.es n).key, false, 0, 0⟩ ∧ ∃ g gi r h ev s j f, Aw K w.heap.size w wr d x t (M : Int) v (m1 gl (l[i]?.getD 0) (i : Int) (τ : Int) v u (n : Int)) n g gi r h ev s j f) ∨ FuF K w wr d l M i τ u t v := by
  rcases q with ⟨n, hO, htn, _, (⟨hky, hu, g, gi, r, h, ev, p⟩ | ⟨hky, hu, hA⟩)⟩ | ⟨hnone, hMs⟩
  · have hn := ((fl.of _ n).1 hO).1
    rw [fl.key hn] at hky
    have hni : n = i := by omega
    subst hni
    have hlt : n < M := by
      unfold mAt at hn
      by_cases hc : n < M
      · exact hc
      · rw [if_neg hc] at hn; omega
    have hτ1 : τ = 1 := by
      unfold mAt at hn
      rw [if_pos hlt] at hn
      by_cases hc : τ = 0
      · rw [if_pos hc] at hn; omega
      · omega
    subst hτ1
    refine .inr (.inr ⟨hlt, by rw [hu], by rw [hu]; rfl, ?_⟩)
    have hm2 : mAt M n 2 = mAt M n 1 := by unfold mAt; rw [if_pos hlt, if_pos hlt]; rfl
    rcases hgl with rfl | rfl
    · refine ⟨upd vs n ((1 : Nat) : Int), t.putv n ((1 : Nat) : Int), g, gi, r, h, ev, v + 1, p, ?_, by omega⟩
      rw [hm2]
      exact fl.putv hn _
    · refine ⟨vs, t, g, gi, r, h, ev, v, p, ?_, by omega⟩
      rw [hm2]
      exact fl
  · have hn := ((fl.of _ n).1 hO).1
    rw [fl.key hn] at hky
    have hni : n < i := by
      unfold mAt at hn
      by_cases hc : i < M
      · rw [if_pos hc] at hn
        by_cases hc2 : τ = 0
        · rw [if_pos hc2] at hn; exact hn
        · rw [if_neg hc2] at hn; omega
      · rw [if_neg hc] at hn; omega
    exact .inl ⟨n, htn, hni, hu, hA⟩
  · by_cases hc : i < M
    · by_cases hτ0 : τ = 0
      · subst hτ0
        have hm0 : mAt M i 0 = i := by unfold mAt; rw [if_pos hc]; rfl
        have hm1 : mAt M i 1 = i + 1 := by unfold mAt; rw [if_pos hc]; rfl
        rw [hm0] at fl
        have hlv : (t.live : Int) < (M : Int) := by rw [fl.live]; omega
        rcases hMs with ⟨_, _, hu, g, gi, r, h, ev, p⟩ | ⟨_, hn, _⟩ | ⟨hn, _⟩
        · refine .inr (.inr ⟨hc, by rw [hu], by rw [hu]; rfl, ?_⟩)
          have fl' : Fl l (upd vs i 0) i t := fl.congr fun n hn => by unfold upd; rw [if_neg (by omega)]
          have := fl'.add ok (by omega)
          have hup : upd vs i 0 i = 0 := by unfold upd; rw [if_pos rfl]
          rw [hup] at this
          refine ⟨upd vs i 0, _, g, gi, r, h, ev, v + 1, p, ?_, by omega⟩
          show Fl l _ (mAt M i 1) _
          rw [hm1]
          exact this
        · exact absurd hlv hn
        · exact absurd hgl hn
      · have hτ1 : τ = 1 := by omega
        subst hτ1
        have hm1 : mAt M i 1 = i + 1 := by unfold mAt; rw [if_pos hc]; rfl
        have := hnone i ((fl.of _ i).2 ⟨by rw [hm1]; omega, rfl⟩)
        omega
    · have hmM : mAt M i τ = M := by unfold mAt; rw [if_neg hc]
      rw [hmM] at fl
      have hlv : ¬ (t.live : Int) < (M : Int) := by rw [fl.live]; omega
      rcases hMs with ⟨_, hn, _⟩ | ⟨_, _, hu, g, gi, r, h, ev, p⟩ | ⟨hn, _⟩
      · exact absurd hn hlv
      · exact .inr (.inl ⟨by omega, hu, g, gi, r, h, ev, p⟩)
      · exact absurd hgl hn
/-- With a new block kept as well. -/
theorem Pd.ext {K : Nat → Prop} {B : Nat} {w0 w w' : World} {d g gi r h : Nat} {ev : Value} {t : Tb} {most : Int} {v : Nat} (p : Pd K B w0 w d g gi r h ev t most v) (hb : Below w.heap.size w w') (hl : w.heap.size < w'.heap.size) : Pd (fun k => k = w.heap.size ∨ K k) B w0 w' d g gi r h ev t most v :=
  (p.below hb).withK (by
    rintro k (hk | hk)
    · exact ⟨by omega, fun hc => by have := p.dc.lt k hc; omega⟩
    · exact (p.below hb).kp k hk)
theorem Aw.ext {K : Nat → Prop} {B : Nat} {w0 w w' : World} {d x : Nat} {t : Tb} {most : Int} {v : Nat} {m : Ma} {n g gi r h : Nat} {ev : Value} {s j f : Nat} (p : Aw K B w0 w d x t most v m n g gi r h ev s j f) (hb : Below w.heap.size w w') (hl : w.heap.size < w'.heap.size) : Aw (fun k => k = w.heap.size ∨ K k) B w0 w' d x t most v m n g gi r h ev s j f :=
  (p.below hb).withK (p.pd.ext hb hl).kp (fun hk => hk.elim (fun h => by have := p.mx.mc.lt (by omega); omega) p.kx) (fun hk => hk.elim (fun h => by have := p.sw.sk.lt (by omega); omega) p.ks)
theorem FuF.ext {K : Nat → Prop} {w wr w' : World} {d : Nat} {l : List Int} {M i τ : Nat} {u : Tu} {t : Tb} {v : Nat} (p : FuF K w wr d l M i τ u t v) (hb : Below wr.heap.size wr w') (hl : wr.heap.size < w'.heap.size) : FuF (fun k => k = wr.heap.size ∨ K k) w w' d l M i τ u t v := by
  rcases p with ⟨a, b, g, gi, r, h, ev, p⟩ | ⟨a, b, c, vs, t', g, gi, r, h, ev, v', p, q⟩
  · exact .inl ⟨a, b, g, gi, r, h, ev, p.ext hb hl⟩
  · exact .inr ⟨a, b, c, vs, t', g, gi, r, h, ev, v', p.ext hb hl, q⟩
theorem FuF.touch {K : Nat → Prop} {w wr w' : World} {d : Nat} {l : List Int} {M i τ : Nat} {u : Tu} {t : Tb} {v : Nat} (p : FuF K w wr d l M i τ u t v) (hx : Ex K wr w') (hK : ∀ k, K k → w.heap.size ≤ k) : FuF K w w' d l M i τ u t v := by
  rcases p with ⟨a, b, g, gi, r, h, ev, p⟩ | ⟨a, b, c, vs, t', g, gi, r, h, ev, v', p, q⟩
  · exact .inl ⟨a, b, g, gi, r, h, ev, p.touch hx hK⟩
  · exact .inr ⟨a, b, c, vs, t', g, gi, r, h, ev, v', p.touch hx hK, q⟩
/-- The law's own turn while it asks: the machine waits, or has ended. -/
def FuL (K : Nat → Prop) (w wr : World) (d x A : Nat) (l : List Int) (M i τ gl : Nat) (vw : Value) (t : Tb) (v n : Nat) : Prop :=
  ∃ u, Blk wr A 5 (tuB u) ∧ Es wr vw (liveL t.es) ∧
    ((∃ q : Nat, n ≤ q ∧ q < i ∧ u = ⟨1, (nth t.es q).key, false, 0, 0⟩ ∧ ∃ g gi r h ev s j f, Aw K w.heap.size w wr d x t (M : Int) v (m1 gl (l[i]?.getD 0) (i : Int) (τ : Int) v u (q : Int)) q g gi r h ev s j f) ∨ FuF K w wr d l M i τ u t v)
end Go.Proofs.YtbdpecpmdglalaaGreat
