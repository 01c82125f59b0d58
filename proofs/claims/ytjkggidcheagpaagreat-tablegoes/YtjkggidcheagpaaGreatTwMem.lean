/-
  A table, the document's, and the Seekers of both, in memory; what a call on both leaves.
-/
import Derived.Test.YtjkggidcheagpaaGreatTfShow
import Derived.Test.YtjkggidcheagpaaGreatDtb
import Derived.Test.YtjkggidcheagpaaGreatSgt
namespace Go.Proofs.YtjkggidcheagpaaGreat
open Go.RowKit Go.WideShapes

/-- Where they lie. -/
structure Pl where
  g : Nat
  gi : Nat
  r : Nat
  h : Nat
  ev : Value
  g2 : Nat
  q2 : Nat
  ev2 : Value
  sp : Value
  kp : Value
def Pl.d (p : Pl) (k : Nat) : Prop := dX p.g p.gi p.r p.h p.ev k
def Pl.e (p : Pl) (k : Nat) : Prop := k = p.g2 ∨ k = p.q2 ∨ p.ev2.ownBlock = some k
def xF (p : Pl) : Nat → Value
  | 0 => .pointer (some ⟨p.g, 0, none⟩)
  | 1 => .pointer (some ⟨p.g2, 0, none⟩)
  | 2 => p.sp
  | _ => p.kp
/-- All blocks of it. -/
def Pl.all (p : Pl) (X k : Nat) : Prop := k = X ∨ p.d k ∨ p.e k ∨ mB p.sp k ∨ mB p.kp k
/-- They have nothing in common: each block has a label of its own. -/
structure Sep (n X : Nat) (p : Pl) (mv mr : Value) (lab : Nat → Nat) : Prop where
  lt : ∀ k, p.all X k → k < n
  x : lab X = 0
  d : ∀ k, p.d k → lab k = 1
  e : ∀ k, p.e k → lab k = 2
  s : ∀ k, mB p.sp k → lab k = 3
  k : ∀ k, mB p.kp k → lab k = 4
  m : ∀ k, mB mv k → lab k = 5 ∧ k < n
  r : ∀ k, mB mr k → lab k = 6 ∧ k < n
/-- Seekers under way. -/
def Lv (w : World) (p : Pl) (t : Tb) (s s2 : Nat) : Prop := ∃ u i told f, Sk w s (.pointer (some ⟨p.g, 0, none⟩)) t.turn u t.L i told i ∧ Blk w s2 8 (sF p.g2 u t.turn (trl (uw u) t.L i) (uw u / 32 ^ i) false i told) ∧ Told t.es t.L t.c u i told ∧ IsF t.c (uw u) t.L f ∧ i ≤ f ∧ f < 2 ^ t.L + 13 ∧ -1 ≤ told
/-- Seekers that have ended. -/
def Ov (w : World) (p : Pl) (t : Tb) (s s2 : Nat) : Prop := ∃ tp tu u c q S told v, Blk w s 8 (skF tp tu u c q S told v) ∧ (tp = .pointer none ∨ (tp = .pointer (some ⟨p.g, 0, none⟩) ∧ tu < t.turn)) ∧ ∃ u2 tu2 cell q2 over last, Blk w s2 8 (sF p.g2 u2 tu2 cell q2 over v last) ∧ (over = true ∨ tu2 < t.turn)
def Sq (w : World) (p : Pl) (t : Tb) : Prop := p.sp = .pointer none ∨ ∃ s s2, p.sp = .pointer (some ⟨s, 0, none⟩) ∧ p.kp = .pointer (some ⟨s2, 0, none⟩) ∧ (Lv w p t s s2 ∨ Ov w p t s s2)
structure Tw (w : World) (X : Nat) (p : Pl) (t : Tb) (mv mr : Value) (M : Int → Int → World → Prop) (a b : Int) : Prop where
  hx : Blk w X 4 (xF p)
  dt : Dt w p.g p.gi p.r p.h p.ev t mv
  rt : RtS w p.g2 p.ev2 p.q2 t mr
  ok : t.Ok
  m : M a b w
  ms : Ms w mr a b 0 0
  sq : Sq w p t
  sep : ∃ lab, Sep w.heap.size X p mv mr lab
/-- How much was done in n steps. -/
def Bd (t : Tb) (a b : Int) (n : Nat) : Prop := t.births ≤ n ∧ t.made ≤ n + 1 ∧ t.turn ≤ n ∧ 0 ≤ a ∧ a ≤ (n : Int) + 1 ∧ 0 ≤ b ∧ b ≤ (n : Int) * 20000000
/-- What a call leaves. -/
structure Dn (w : World) (X : Nat) (p : Pl) (mv mr : Value) (M : Int → Int → World → Prop) (n : Nat) (p' : Pl) (t' : Tb) (a' b' : Int) (w' : World) : Prop where
  tw : Tw w' X p' t' mv mr M a' b'
  bd : Bd t' a' b' n
  fx : ∀ k, p'.all X k → p.all X k ∨ w.heap.size ≤ k
  ex : Ex (fun k => p.all X k ∨ mB mv k ∨ mB mr k) w w'
theorem Lv.same {w w' : World} {p p' : Pl} {t : Tb} {s s2 : Nat} (h : Lv w p t s s2) (e1 : w'.heap[s]? = w.heap[s]?) (e2 : w'.heap[s2]? = w.heap[s2]?) (g1 : p'.g = p.g) (g2 : p'.g2 = p.g2) : Lv w' p' t s s2 := by
  obtain ⟨u, i, told, f, h1, h2, h3⟩ := h
  unfold Lv
  rw [g1, g2]
  exact ⟨u, i, told, f, Blk.same h1 e1, h2.same e2, h3⟩
theorem Ov.same {w w' : World} {p p' : Pl} {t t' : Tb} {s s2 : Nat} (h : Ov w p t s s2) (e1 : w'.heap[s]? = w.heap[s]?) (e2 : w'.heap[s2]? = w.heap[s2]?) (g1 : p'.g = p.g) (g2 : p'.g2 = p.g2) (ht : t.turn ≤ t'.turn) : Ov w' p' t' s s2 := by
  obtain ⟨tp, tu, u, c, q, S, told, v, h1, h2, u2, tu2, cell, q2, over, last, h3, h4⟩ := h
  unfold Ov
  rw [g1, g2]
  exact ⟨tp, tu, u, c, q, S, told, v, h1.same e1, h2.elim .inl (fun x => .inr ⟨x.1, by omega⟩), u2, tu2, cell, q2, over, last, h3.same e2, h4.elim .inl (fun x => .inr (by omega))⟩
/-- What was under way has ended. -/
theorem Lv.ends {w : World} {p : Pl} {t t' : Tb} {s s2 : Nat} (h : Lv w p t s s2) (ht : t.turn < t'.turn) : Ov w p t' s s2 := by
  obtain ⟨u, i, told, f, h1, h2, h3⟩ := h
  exact ⟨_, _, _, _, _, _, _, _, h1, .inr ⟨rfl, ht⟩, _, _, _, _, _, _, h2, .inr ht⟩
/-- A change after which Seekers have ended, or one that they don't see. -/
def Turned (t t' : Tb) : Prop := t.turn < t'.turn ∨ (t'.turn = t.turn ∧ t'.L = t.L ∧ t'.c = t.c ∧ t'.es.length = t.es.length ∧ ∀ m, (nth t'.es m).live = (nth t.es m).live ∧ (nth t'.es m).hash = (nth t.es m).hash)
theorem Turned.refl (t : Tb) : Turned t t := .inr ⟨rfl, rfl, rfl, rfl, fun _ => ⟨rfl, rfl⟩⟩
theorem turned_put (t : Tb) (n : Nat) (v : Int) (hn : n < t.es.length) : Turned t (t.putv n v) := by
  refine .inr ⟨rfl, rfl, rfl, by show (t.es.set n _).length = _; rw [List.length_set], fun m => ?_⟩
  show (nth (t.es.set n _) m).live = _ ∧ (nth (t.es.set n _) m).hash = _
  rw [nth_set hn]
  by_cases e : m = n
  · rw [if_pos e, e]; exact ⟨rfl, rfl⟩
  · rw [if_neg e]; exact ⟨rfl, rfl⟩
theorem Turned.told {t t' : Tb} (h : t'.L = t.L ∧ t'.c = t.c ∧ t'.es.length = t.es.length ∧ ∀ m, (nth t'.es m).live = (nth t.es m).live ∧ (nth t'.es m).hash = (nth t.es m).hash) {u : Int} {i : Nat} {told : Int} (ht : Told t.es t.L t.c u i told) : Told t'.es t'.L t'.c u i told := by
  obtain ⟨h1, h2, h3, h4⟩ := h
  intro n hO q hP
  have hO' : Of t.es u n := ⟨by rw [← h3]; exact hO.1, by rw [← (h4 n).1]; exact hO.2.1, by rw [← (h4 n).2]; exact hO.2.2⟩
  refine ht n hO' q ?_
  unfold Pos at hP ⊢
  rw [h1, h2, (h4 n).2] at hP
  exact hP
theorem Lv.turn {w : World} {p : Pl} {t t' : Tb} {s s2 : Nat} (h : Lv w p t s s2) (ht : Turned t t') : Lv w p t' s s2 ∨ Ov w p t' s s2 := by
  rcases ht with ht | ⟨h0, h1⟩
  · exact .inr (h.ends ht)
  · obtain ⟨u, i, told, f, k1, k2, k3, k4, k5, k6, k7⟩ := h
    have k3' := Turned.told h1 k3
    obtain ⟨h1, h2, _⟩ := h1
    refine .inl ⟨u, i, told, f, ?_, ?_, k3', ?_, k5, ?_, k7⟩
    · rw [h0, h1]; exact k1
    · rw [h0, h1]; exact k2
    · rw [h1, h2]; exact k4
    · rw [h1]; exact k6
theorem Turned.le {t t' : Tb} (h : Turned t t') : t.turn ≤ t'.turn := by
  rcases h with h | ⟨h, _⟩ <;> omega
theorem Sq.step {w w' : World} {p p' : Pl} {t t' : Tb} (h : Sq w p t) (e : ∀ k, mB p.sp k ∨ mB p.kp k → w'.heap[k]? = w.heap[k]?) (g1 : p'.g = p.g) (g2 : p'.g2 = p.g2) (s1 : p'.sp = p.sp) (s2 : p'.kp = p.kp) (ht : Turned t t') : Sq w' p' t' := by
  rcases h with h | ⟨s, k, h1, h2, h3⟩
  · exact .inl (by rw [s1]; exact h)
  · refine .inr ⟨s, k, by rw [s1]; exact h1, by rw [s2]; exact h2, ?_⟩
    have e1 := e s (.inl h1)
    have e2 := e k (.inr h2)
    rcases h3 with h3 | h3
    · rcases h3.turn ht with h4 | h4
      · exact .inl (h4.same e1 e2 g1 g2)
      · exact .inr (h4.same e1 e2 g1 g2 (Nat.le_refl _))
    · exact .inr (h3.same e1 e2 g1 g2 ht.le)
theorem Rt.lt {w : World} {g : Nat} {ev : Value} {q : Nat} {t : Tb} {mv : Value} (h : Rt w g ev q t mv) : ∀ k, (k = g ∨ k = q ∨ ev.ownBlock = some k) → k < w.heap.size := by
  rintro k (rfl | rfl | hk)
  · exact h.hd.lt (by omega)
  · exact h.rf.lt (pow2_pos _)
  · exact h.es.lt k hk
theorem Pl.all_x {p : Pl} {X : Nat} : p.all X X := .inl rfl
/-- Other blocks turned: all is as it was. -/
theorem Tw.keep {w w' : World} {X : Nat} {p : Pl} {t : Tb} {mv mr : Value} {M : Int → Int → World → Prop} {a b : Int} (h : Tw w X p t mv mr M a b) (hMo : MtOk mv M) (hs : w.heap.size ≤ w'.heap.size) (e : ∀ k, k < w.heap.size → (p.all X k ∨ mB mv k ∨ mB mr k) → w'.heap[k]? = w.heap[k]?) : Tw w' X p t mv mr M a b := by
  obtain ⟨lab, sp⟩ := h.sep
  have e' : ∀ k, p.all X k → w'.heap[k]? = w.heap[k]? := fun k hk => e k (sp.lt k hk) (.inl hk)
  exact ⟨h.hx.same (e' X (.inl rfl)), h.dt.same (fun k hk => e' k (.inr (.inl hk))), h.rt.same (fun k hk => e' k (.inr (.inr (.inl hk)))), h.ok, hMo.same _ _ _ _ h.m (fun k hk => e k (sp.m k hk).2 (.inr (.inl hk))), h.ms.same (fun k hk => e k (sp.r k hk).2 (.inr (.inr hk))),
    h.sq.step (fun k hk => e' k (.inr (.inr (.inr hk)))) rfl rfl rfl rfl (Turned.refl t), lab, fun k hk => Nat.lt_of_lt_of_le (sp.lt k hk) hs, sp.x, sp.d, sp.e, sp.s, sp.k, fun k hk => ⟨(sp.m k hk).1, Nat.lt_of_lt_of_le (sp.m k hk).2 hs⟩, fun k hk => ⟨(sp.r k hk).1, Nat.lt_of_lt_of_le (sp.r k hk).2 hs⟩⟩
theorem Tw.below {w w' : World} {X : Nat} {p : Pl} {t : Tb} {mv mr : Value} {M : Int → Int → World → Prop} {a b : Int} (h : Tw w X p t mv mr M a b) (hMo : MtOk mv M) (hb : Below w.heap.size w w') : Tw w' X p t mv mr M a b := h.keep hMo hb.size fun k hk _ => hb.block k hk
/-- Behind a call on the table: what the document's call asks. -/
theorem Tw.mid {w w1 : World} {X : Nat} {p : Pl} {t : Tb} {mv mr : Value} {M : Int → Int → World → Prop} {a b : Int} (h : Tw w X p t mv mr M a b) (x1 : Ex (fun j => p.d j ∨ mB mv j) w w1) : RtS w1 p.g2 p.ev2 p.q2 t mr ∧ Ms w1 mr a b 0 0 ∧ Blk w1 X 4 (xF p) := by
  obtain ⟨lab, sp⟩ := h.sep
  have key : ∀ k, k < w.heap.size → lab k ≠ 1 → lab k ≠ 5 → w1.heap[k]? = w.heap[k]? := fun k hk h1 h2 => x1.block k hk (fun hx => hx.elim (fun y => h1 (sp.d k y)) (fun y => h2 (sp.m k y).1))
  refine ⟨h.rt.same fun k hk => ?_, h.ms.same fun k hk => ?_, h.hx.same ?_⟩
  · have := sp.e k hk
    exact key k (sp.lt k (.inr (.inr (.inl hk)))) (by omega) (by omega)
  · have := sp.r k hk
    exact key k this.2 (by omega) (by omega)
  · have := sp.x
    exact key X (sp.lt X (.inl rfl)) (by omega) (by omega)
/-- A call on both, of which each has turned its own. -/
theorem Tw.both {w w1 w2 : World} {X : Nat} {p : Pl} {t t' : Tb} {mv mr : Value} {M : Int → Int → World → Prop} {a b a' b' : Int} (hT : Tw w X p t mv mr M a b) (hMo : MtOk mv M) {gi' r' h' : Nat} {ev' : Value} {q2' : Nat} {ev2' : Value}
    (hd : Dt w1 p.g gi' r' h' ev' t' mv) (fx : ∀ j, dX p.g gi' r' h' ev' j → p.d j ∨ w.heap.size ≤ j) (hm : M a' b' w1) (x1 : Ex (fun j => p.d j ∨ mB mv j) w w1)
    (hr : RtS w2 p.g2 ev2' q2' t' mr) (fx2 : ∀ j, (j = p.g2 ∨ j = q2' ∨ ev2'.ownBlock = some j) → p.e j ∨ w1.heap.size ≤ j) (hms : Ms w2 mr a' b' 0 0) (x2 : Ex (fun j => p.e j ∨ mB mr j) w1 w2) (ok : t'.Ok) (tr : Turned t t') :
    Tw w2 X { p with gi := gi', r := r', h := h', ev := ev', q2 := q2', ev2 := ev2' } t' mv mr M a' b' ∧ (∀ k, Pl.all { p with gi := gi', r := r', h := h', ev := ev', q2 := q2', ev2 := ev2' } X k → p.all X k ∨ w.heap.size ≤ k) ∧ Ex (fun k => p.all X k ∨ mB mv k ∨ mB mr k) w w2 := by
  obtain ⟨lab, sp⟩ := hT.sep
  have s1 := x1.size
  have s2 := x2.size
  have n1 : ∀ k, k < w.heap.size → lab k ≠ 1 → lab k ≠ 5 → w1.heap[k]? = w.heap[k]? := fun k hk h1 h2 => x1.block k hk (fun hx => hx.elim (fun y => h1 (sp.d k y)) (fun y => h2 (sp.m k y).1))
  have n2 : ∀ k, k < w.heap.size → lab k ≠ 2 → lab k ≠ 6 → w2.heap[k]? = w1.heap[k]? := fun k hk h1 h2 => x2.block k (by omega) (fun hx => hx.elim (fun y => h1 (sp.e k y)) (fun y => h2 (sp.r k y).1))
  have n3 : ∀ k, w.heap.size ≤ k → k < w1.heap.size → w2.heap[k]? = w1.heap[k]? := fun k hk hl => x2.block k hl (fun hx => hx.elim (fun y => by have := sp.lt k (.inr (.inr (.inl y))); omega) (fun y => by have := (sp.r k y).2; omega))
  have hdl := hd.lt
  refine ⟨⟨?_, ?_, hr, ok, ?_, hms, ?_, ?_⟩, ?_, ?_⟩
  · have := sp.x
    exact (hT.hx.same ((n2 X (sp.lt X (.inl rfl)) (by omega) (by omega)).trans (n1 X (sp.lt X (.inl rfl)) (by omega) (by omega)))).congr fun j hj => by
      have : j = 0 ∨ j = 1 ∨ j = 2 ∨ j = 3 := by omega
      rcases this with rfl | rfl | rfl | rfl <;> rfl
  · refine hd.same fun k hk => ?_
    rcases fx k hk with y | y
    · have := sp.d k y
      exact n2 k (sp.lt k (.inr (.inl y))) (by omega) (by omega)
    · exact n3 k y (hdl k hk)
  · refine hMo.same _ _ _ _ hm fun k hk => ?_
    have := sp.m k hk
    exact n2 k this.2 (by omega) (by omega)
  · refine hT.sq.step (fun k hk => ?_) rfl rfl rfl rfl tr
    rcases hk with y | y
    · have := sp.s k y
      have hl := sp.lt k (.inr (.inr (.inr (.inl y))))
      exact (n2 k hl (by omega) (by omega)).trans (n1 k hl (by omega) (by omega))
    · have := sp.k k y
      have hl := sp.lt k (.inr (.inr (.inr (.inr y))))
      exact (n2 k hl (by omega) (by omega)).trans (n1 k hl (by omega) (by omega))
  · refine ⟨fun k => if k < w.heap.size then lab k else if k < w1.heap.size then 1 else 2, ?_, ?_, ?_, ?_, ?_, ?_, ?_, ?_⟩
    · rintro k (rfl | y | y | y | y)
      · have := sp.lt _ (.inl rfl); omega
      · have := hdl k y; omega
      · exact hr.lt k y
      · have := sp.lt k (.inr (.inr (.inr (.inl y)))); omega
      · have := sp.lt k (.inr (.inr (.inr (.inr y)))); omega
    · show (if X < w.heap.size then lab X else _) = 0
      rw [if_pos (sp.lt X (.inl rfl))]
      exact sp.x
    · intro k y
      show (if k < w.heap.size then lab k else _) = 1
      rcases fx k y with z | z
      · rw [if_pos (sp.lt k (.inr (.inl z)))]
        exact sp.d k z
      · rw [if_neg (by omega), if_pos (hdl k y)]
    · intro k y
      show (if k < w.heap.size then lab k else _) = 2
      rcases fx2 k y with z | z
      · rw [if_pos (sp.lt k (.inr (.inr (.inl z))))]
        exact sp.e k z
      · rw [if_neg (by omega), if_neg (by omega)]
    · intro k y
      show (if k < w.heap.size then lab k else _) = 3
      rw [if_pos (sp.lt k (.inr (.inr (.inr (.inl y)))))]
      exact sp.s k y
    · intro k y
      show (if k < w.heap.size then lab k else _) = 4
      rw [if_pos (sp.lt k (.inr (.inr (.inr (.inr y)))))]
      exact sp.k k y
    · intro k y
      show (if k < w.heap.size then lab k else _) = 5 ∧ _
      have := sp.m k y
      rw [if_pos this.2]
      exact ⟨this.1, by omega⟩
    · intro k y
      show (if k < w.heap.size then lab k else _) = 6 ∧ _
      have := sp.r k y
      rw [if_pos this.2]
      exact ⟨this.1, by omega⟩
  · rintro k (rfl | y | y | y | y)
    · exact .inl (.inl rfl)
    · exact (fx k y).elim (fun z => .inl (.inr (.inl z))) .inr
    · exact (fx2 k y).elim (fun z => .inl (.inr (.inr (.inl z)))) (fun z => .inr (by omega))
    · exact .inl (.inr (.inr (.inr (.inl y))))
    · exact .inl (.inr (.inr (.inr (.inr y))))
  · exact (x1.mono (fun k _ hk => hk.elim (fun y => .inl (.inr (.inl y))) (fun y => .inr (.inl y)))).next x2 (fun k _ hk => hk.elim (fun y => .inl (.inr (.inr (.inl y)))) (fun y => .inr (.inr y)))
end Go.Proofs.YtjkggidcheagpaaGreat
