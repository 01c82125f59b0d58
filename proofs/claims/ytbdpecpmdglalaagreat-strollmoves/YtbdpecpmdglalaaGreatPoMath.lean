/-
  A dictionary that was only added to.
-/
import Derived.Test.YtbdpecpmdglalaaGreatPrl
import Derived.Test.YtbdpecpmdglalaaGreatOpn
namespace Go.Proofs.YtbdpecpmdglalaaGreat
open Go.RowKit Go.WideShapes

theorem liveL_all {es : List En} (h : deadN es = 0) : liveL es = es := by
  induction es with
  | nil => rfl
  | cons e r ih =>
    rw [deadN] at h
    by_cases x : e.live = true
    · rw [if_pos x] at h
      rw [liveL, if_pos x, ih (by omega)]
    · rw [if_neg x] at h
      omega
/-- Entries of the hashes of l, numbered. -/
structure Ad1 (l : List Int) (i : Nat) (t : Tb) : Prop where
  len : t.es.length = i
  at' : ∀ n, n < i → nth t.es n = ⟨true, l[n]?.getD 0, (n : Int), (n : Int), (n : Int)⟩
  dead : deadN t.es = 0
  births : t.births = i
  made : t.made ≤ i + 1
  turn : t.turn = i
theorem Ad1.new (l : List Int) : Ad1 l 0 Tb.new := ⟨rfl, fun _ h => absurd h (Nat.not_lt_zero _), rfl, rfl, Nat.le_refl _, rfl⟩
theorem Ad1.add {l : List Int} {i : Nat} {t : Tb} (h : Ad1 l i t) (ok : t.Ok) (hi : i < 100000) : Ad1 l (i + 1) (t.add (l[i]?.getD 0) (i : Int) (i : Int)) := by
  have r := t.add_rest (l[i]?.getD 0) (i : Int) (i : Int)
  have ok' := ok.add (l[i]?.getD 0) (i : Int) (i : Int) (by rw [h.births]; exact hi)
  have e := t.add_es (l[i]?.getD 0) (i : Int) (i : Int)
  rw [liveL_all h.dead, h.births] at e
  have hf := ok'.few
  have hl := liveL_len (t.add (l[i]?.getD 0) (i : Int) (i : Int)).es
  rw [r.1, h.births] at hf
  have hlen : (liveL (t.add (l[i]?.getD 0) (i : Int) (i : Int)).es).length = i + 1 := by rw [e]; simp [h.len]
  have hd : deadN (t.add (l[i]?.getD 0) (i : Int) (i : Int)).es = 0 := by omega
  have he := (liveL_all hd).symm.trans e
  refine ⟨by rw [he]; simp [h.len], fun n hn => ?_, hd, by rw [r.1, h.births], by have := h.made; omega, by rw [r.2.2.2, h.turn]⟩
  rw [he]
  rcases Nat.lt_or_ge n i with z | z
  · rw [nth_app_lt (by rw [h.len]; exact z)]
    exact h.at' n z
  · have : n = i := by omega
    subst this
    have := nth_app_eq t.es ⟨true, l[n]?.getD 0, (n : Int), (n : Int), (n : Int)⟩
    rw [h.len] at this
    exact this
theorem Ad1.of {l : List Int} {i : Nat} {t : Tb} (h : Ad1 l i t) (u : Int) (n : Nat) : Of t.es u n ↔ n < i ∧ l[n]?.getD 0 = u := by
  constructor
  · rintro ⟨h1, _, h3⟩
    rw [h.len] at h1
    rw [h.at' n h1] at h3
    exact ⟨h1, h3⟩
  · rintro ⟨h1, h2⟩
    rw [Of, h.at' n h1]
    exact ⟨by rw [h.len]; exact h1, rfl, h2⟩
theorem Ad1.key {l : List Int} {i : Nat} {t : Tb} (h : Ad1 l i t) {u : Int} {n : Nat} (hn : Of t.es u n) : (nth t.es n).key = (n : Int) ∧ (nth t.es n).value = (n : Int) := by
  rw [h.at' n ((h.of u n).1 hn).1]
  exact ⟨rfl, rfl⟩
theorem Ad1.fit {l : List Int} {i : Nat} {t : Tb} (h : Ad1 l i t) (hi : i ≤ 50000) : Fit t i := ⟨by have := h.made; omega, by rw [h.turn]; omega, by rw [h.births]; omega, by omega⟩
def tuB (u : Tu) (j : Nat) : Value := [Value.int .i64 u.kind, .int .i64 u.key, .bool u.found, .int .i64 u.value, .int .i64 u.entry].getD j .nilFunc
/-- The law's own turn while it puts in the i-th: it waits, or it is in. -/
def In1 (B : Nat) (w0 : World) (d x A : Nat) (l : List Int) (t : Tb) (i : Nat) (n : Nat) (wr : World) : Prop :=
  ∃ u, Blk wr A 5 (tuB u) ∧ B ≤ A ∧
    ((∃ (q : Nat) (g gi r h : Nat) (ev : Value) (s j f : Nat), u = ⟨1, (q : Int), false, 0, 0⟩ ∧ n ≤ q ∧ q < i ∧ Aw (fun k => k = A) B w0 wr d x t 1000 i ⟨2, l[i]?.getD 0, (i : Int), (i : Int), i, 1, ⟨1, (q : Int), false, 0, 0⟩, (q : Int), false⟩ q g gi r h ev s j f) ∨
     (u = ⟨2, 0, false, (i : Int), (i : Int)⟩ ∧ ∃ g gi r h ev, Pd (fun k => k = A) B w0 wr d g gi r h ev (t.add (l[i]?.getD 0) (i : Int) (i : Int)) 1000 (i + 1)))
/-- What a step told, laid into A. -/
theorem in1_of {B : Nat} {w0 w w' : World} {d x A : Nat} {l : List Int} {t : Tb} {i : Nat} {m : Ma} {told : Int} {u : Tu} {K : Nat → Prop} (hm : m.goal = 2 ∧ m.hash = l[i]?.getD 0 ∧ m.key = (i : Int) ∧ m.value = (i : Int) ∧ m.ver = i ∧ m.scans = 1 ∧ m.same = false) (hA : Ad1 l i t) (hi : i ≤ 500) (hok : t.Ok) (n : Nat) (hn : (n : Int) ≤ told + 1) (hL : LwR K B w0 d x t 1000 i m told u w) (hb : B ≤ A) (hblk : Blk w' A 5 (tuB u)) (hx : ∀ g gi r h ev s j f q m', Aw K B w0 w d x t 1000 i m' q g gi r h ev s j f → Aw (fun k => k = A) B w0 w' d x t 1000 i m' q g gi r h ev s j f) (hp : ∀ g gi r h ev t' v, Pd K B w0 w d g gi r h ev t' 1000 v → Pd (fun k => k = A) B w0 w' d g gi r h ev t' 1000 v) : In1 B w0 d x A l t i n w' := by
  obtain ⟨m1, m2, m3, m4, m5, m6, m7⟩ := hm
  refine ⟨u, hblk, hb, ?_⟩
  rcases hL with ⟨q, hO, hq, _, hu, g, gi, r, h, ev, s, j, f, hAw⟩ | ⟨_, _, hM⟩
  · rw [(hA.key hO).1] at hu
    subst hu
    have hqi := ((hA.of _ _).1 hO).1
    refine .inl ⟨q, g, gi, r, h, ev, s, j, f, rfl, by omega, hqi, ?_⟩
    have := hx _ _ _ _ _ _ _ _ _ _ hAw
    cases m
    simp only at m1 m2 m3 m4 m5 m6 m7
    subst m1 m2 m3 m4 m5 m6 m7
    exact this
  · rcases hM with ⟨_, _, hu, g, gi, r, h, ev, hP⟩ | ⟨_, hno, _⟩ | ⟨hno, _⟩
    · rw [m2, m3, m4] at hu hP
      have ha := hA.add hok (by omega)
      rw [ha.len] at hu
      refine .inr ⟨by rw [hu]; simp, g, gi, r, h, ev, hp _ _ _ _ _ _ _ hP⟩
    · have := t.live_le
      have := hA.len
      omega
    · exact absurd (.inl m1) hno
/-- What the law needs of a machine that has ended. -/
def Fi3 (B : Nat) (w0 : World) (d x A : Nat) (t : Tb) (N : Nat) (wr : World) : Prop := ∃ s j m g gi r h ev, En1 wr d x m t.L s j ∧ Pd (fun k => k = A) B w0 wr d g gi r h ev t 1000 N
/-- The law's own turn at the i-th hash of the list. -/
def In3 (B : Nat) (w0 : World) (d x A : Nat) (l : List Int) (t : Tb) (N : Nat) (hash same : Int) (i : Nat) (wr : World) : Prop :=
  (∀ k : Nat, k < i → l[k]?.getD 0 = hash → (k : Int) ≠ same) ∧ ∃ u, Blk wr A 5 (tuB u) ∧ B ≤ A ∧
    ((∃ (q : Nat) (g gi r h : Nat) (ev : Value) (s j f : Nat), u = ⟨1, (q : Int), false, 0, 0⟩ ∧ i ≤ q ∧ q < N ∧ l[q]?.getD 0 = hash ∧ (∀ k, k < N → l[k]?.getD 0 = hash → i ≤ k → q ≤ k) ∧ Aw (fun k => k = A) B w0 wr d x t 1000 N ⟨1, hash, -1, 0, N, 1, ⟨1, (q : Int), false, 0, 0⟩, (q : Int), false⟩ q g gi r h ev s j f) ∨
     ((∀ k, k < N → l[k]?.getD 0 = hash → k < i) ∧ u = ⟨2, 0, false, 0, -1⟩ ∧ Fi3 B w0 d x A t N wr))
theorem in3_of {B : Nat} {w0 w w' : World} {d x A : Nat} {l : List Int} {t : Tb} {N : Nat} {hash same : Int} {m : Ma} {told : Int} {u : Tu} {K : Nat → Prop} (hm : m.goal = 1 ∧ m.hash = hash ∧ m.key = -1 ∧ m.value = 0 ∧ m.ver = N ∧ m.scans = 1 ∧ m.same = false) (hA : Ad1 l N t) (i : Nat) (hi : (i : Int) = told + 1) (hns : ∀ k : Nat, k < i → l[k]?.getD 0 = hash → (k : Int) ≠ same) (hL : LwR K B w0 d x t 1000 N m told u w) (hb : B ≤ A) (hblk : Blk w' A 5 (tuB u)) (hx : ∀ g gi r h ev s j f q m', Aw K B w0 w d x t 1000 N m' q g gi r h ev s j f → Aw (fun k => k = A) B w0 w' d x t 1000 N m' q g gi r h ev s j f) (hp : ∀ g gi r h ev t' v, Pd K B w0 w d g gi r h ev t' 1000 v → Pd (fun k => k = A) B w0 w' d g gi r h ev t' 1000 v) (he : ∀ m' s j, En1 w d x m' t.L s j → ¬ K s → ¬ K x → En1 w' d x m' t.L s j) : In3 B w0 d x A l t N hash same i w' := by
  obtain ⟨m1, m2, m3, m4, m5, m6, m7⟩ := hm
  refine ⟨hns, u, hblk, hb, ?_⟩
  rcases hL with ⟨q, hO, hq, hmin, hu, g, gi, r, h, ev, s, j, f, hAw⟩ | ⟨hall, ⟨s, j, hE, k1, k2⟩, hM⟩
  · rw [(hA.key hO).1] at hu
    subst hu
    obtain ⟨hqN, hqh⟩ := (hA.of _ _).1 hO
    rw [m2] at hqh
    refine .inl ⟨q, g, gi, r, h, ev, s, j, f, rfl, by omega, hqN, hqh, fun k h1 h2 h3 => hmin k ((hA.of _ _).2 ⟨h1, by rw [m2]; exact h2⟩) (by omega), ?_⟩
    have := hx _ _ _ _ _ _ _ _ _ _ hAw
    cases m
    simp only at m1 m2 m3 m4 m5 m6 m7
    subst m1 m2 m3 m4 m5 m6 m7
    exact this
  · rcases hM with ⟨hno, _⟩ | ⟨hno, _⟩ | ⟨_, hu, g, gi, r, h, ev, hP⟩
    · rw [m1] at hno; omega
    · rw [m1] at hno; omega
    · exact .inr ⟨fun k h1 h2 => by have := hall k ((hA.of _ _).2 ⟨h1, by rw [m2]; exact h2⟩); omega, hu, s, j, _, g, gi, r, h, ev, he _ _ _ hE k1 k2, hp _ _ _ _ _ _ _ hP⟩
theorem En1.lts {w : World} {d x : Nat} {m : Ma} {L s j : Nat} (h : En1 w d x m L s j) : x < w.heap.size ∧ s < w.heap.size := by
  obtain ⟨_, _, _, _, _, _, q⟩ := h.vi
  exact ⟨h.mc.lt (by omega), q.lt (by omega)⟩
theorem En1.of {w w' : World} {d x : Nat} {m : Ma} {L s j : Nat} (h : En1 w d x m L s j) (hx : w'.heap[x]? = w.heap[x]?) (hs : w'.heap[s]? = w.heap[s]?) : En1 w' d x m L s j := ⟨h.mc.same hx, h.vi.same hs, h.le, h.scans⟩
end Go.Proofs.YtbdpecpmdglalaaGreat
