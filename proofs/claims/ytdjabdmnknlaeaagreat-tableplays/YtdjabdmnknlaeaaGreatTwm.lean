/-
  A table, the document's, and the Seekers of both, in memory; what a call on both leaves.
  The law's does: Add.
  The law's does: Put, Kill, At, Clear, and steps of no kind.
-/
import Derived.Test.YtdjabdmnknlaeaaGreatTfs
import Derived.Test.YtdjabdmnknlaeaaGreatDtb
import Derived.Test.YtdjabdmnknlaeaaGreatSgt
namespace Go.Proofs.YtdjabdmnknlaeaaGreat
open Go.RowKit Go.WideShapes

/-- Where they lie. -/
structure Pl where
  g : Nat
  gi : Nat
  r : Nat
  h : Nat
  ev : Value
  g2 : Nat
  q2 : Nat
  ev2 : Value
  sp : Value
  kp : Value
def Pl.d (p : Pl) (k : Nat) : Prop := dX p.g p.gi p.r p.h p.ev k
def Pl.e (p : Pl) (k : Nat) : Prop := k = p.g2 ∨ k = p.q2 ∨ p.ev2.ownBlock = some k
def xF (p : Pl) : Nat → Value
  | 0 => .pointer (some ⟨p.g, 0, none⟩)
  | 1 => .pointer (some ⟨p.g2, 0, none⟩)
  | 2 => p.sp
  | _ => p.kp
/-- All blocks of it. -/
def Pl.all (p : Pl) (X k : Nat) : Prop := k = X ∨ p.d k ∨ p.e k ∨ mB p.sp k ∨ mB p.kp k
/-- They have nothing in common: each block has a label of its own. -/
structure Sep (n X : Nat) (p : Pl) (mv mr : Value) (lab : Nat → Nat) : Prop where
  lt : ∀ k, p.all X k → k < n
  x : lab X = 0
  d : ∀ k, p.d k → lab k = 1
  e : ∀ k, p.e k → lab k = 2
  s : ∀ k, mB p.sp k → lab k = 3
  k : ∀ k, mB p.kp k → lab k = 4
  m : ∀ k, mB mv k → lab k = 5 ∧ k < n
  r : ∀ k, mB mr k → lab k = 6 ∧ k < n
/-- Seekers under way. -/
def Lv (w : World) (p : Pl) (t : Tb) (s s2 : Nat) : Prop := ∃ u i told f, Sk w s (.pointer (some ⟨p.g, 0, none⟩)) t.turn u t.L i told i ∧ Blk w s2 8 (sF p.g2 u t.turn (trl (uw u) t.L i) (uw u / 32 ^ i) false i told) ∧ Told t.es t.L t.c u i told ∧ IsF t.c (uw u) t.L f ∧ i ≤ f ∧ f < 2 ^ t.L + 13 ∧ -1 ≤ told
/-- Seekers that have ended. -/
def Ov (w : World) (p : Pl) (t : Tb) (s s2 : Nat) : Prop := ∃ tp tu u c q S told v, Blk w s 8 (skF tp tu u c q S told v) ∧ (tp = .pointer none ∨ (tp = .pointer (some ⟨p.g, 0, none⟩) ∧ tu < t.turn)) ∧ ∃ u2 tu2 cell q2 over last, Blk w s2 8 (sF p.g2 u2 tu2 cell q2 over v last) ∧ (over = true ∨ tu2 < t.turn)
def Sq (w : World) (p : Pl) (t : Tb) : Prop := p.sp = .pointer none ∨ ∃ s s2, p.sp = .pointer (some ⟨s, 0, none⟩) ∧ p.kp = .pointer (some ⟨s2, 0, none⟩) ∧ (Lv w p t s s2 ∨ Ov w p t s s2)
structure Tw (w : World) (X : Nat) (p : Pl) (t : Tb) (mv mr : Value) (M : Int → Int → World → Prop) (a b : Int) : Prop where
  hx : Blk w X 4 (xF p)
  dt : Dt w p.g p.gi p.r p.h p.ev t mv
  rt : RtS w p.g2 p.ev2 p.q2 t mr
  ok : t.Ok
  m : M a b w
  ms : Ms w mr a b 0 0
  sq : Sq w p t
  sep : ∃ lab, Sep w.heap.size X p mv mr lab
/-- How much was done in n steps. -/
def Bd (t : Tb) (a b : Int) (n : Nat) : Prop := t.births ≤ n ∧ t.made ≤ n + 1 ∧ t.turn ≤ n ∧ 0 ≤ a ∧ a ≤ (n : Int) + 1 ∧ 0 ≤ b ∧ b ≤ (n : Int) * 20000000
/-- What a call leaves. -/
structure Dn (w : World) (X : Nat) (p : Pl) (mv mr : Value) (M : Int → Int → World → Prop) (n : Nat) (p' : Pl) (t' : Tb) (a' b' : Int) (w' : World) : Prop where
  tw : Tw w' X p' t' mv mr M a' b'
  bd : Bd t' a' b' n
  fx : ∀ k, p'.all X k → p.all X k ∨ w.heap.size ≤ k
  ex : Ex (fun k => p.all X k ∨ mB mv k ∨ mB mr k) w w'
theorem Lv.same {w w' : World} {p p' : Pl} {t : Tb} {s s2 : Nat} (h : Lv w p t s s2) (e1 : w'.heap[s]? = w.heap[s]?) (e2 : w'.heap[s2]? = w.heap[s2]?) (g1 : p'.g = p.g) (g2 : p'.g2 = p.g2) : Lv w' p' t s s2 := by
  obtain ⟨u, i, told, f, h1, h2, h3⟩ := h
  unfold Lv
  rw [g1, g2]
  exact ⟨u, i, told, f, Blk.same h1 e1, h2.same e2, h3⟩
theorem Ov.same {w w' : World} {p p' : Pl} {t t' : Tb} {s s2 : Nat} (h : Ov w p t s s2) (e1 : w'.heap[s]? = w.heap[s]?) (e2 : w'.heap[s2]? = w.heap[s2]?) (g1 : p'.g = p.g) (g2 : p'.g2 = p.g2) (ht : t.turn ≤ t'.turn) : Ov w' p' t' s s2 := by
  obtain ⟨tp, tu, u, c, q, S, told, v, h1, h2, u2, tu2, cell, q2, over, last, h3, h4⟩ := h
  unfold Ov
  rw [g1, g2]
  exact ⟨tp, tu, u, c, q, S, told, v, h1.same e1, h2.elim .inl (fun x => .inr ⟨x.1, by omega⟩), u2, tu2, cell, q2, over, last, h3.same e2, h4.elim .inl (fun x => .inr (by omega))⟩
/-- What was under way has ended. -/
theorem Lv.ends {w : World} {p : Pl} {t t' : Tb} {s s2 : Nat} (h : Lv w p t s s2) (ht : t.turn < t'.turn) : Ov w p t' s s2 := by
  obtain ⟨u, i, told, f, h1, h2, h3⟩ := h
  exact ⟨_, _, _, _, _, _, _, _, h1, .inr ⟨rfl, ht⟩, _, _, _, _, _, _, h2, .inr ht⟩
/-- A change after which Seekers have ended, or one that they don't see. -/
def Turned (t t' : Tb) : Prop := t.turn < t'.turn ∨ (t'.turn = t.turn ∧ t'.L = t.L ∧ t'.c = t.c ∧ t'.es.length = t.es.length ∧ ∀ m, (nth t'.es m).live = (nth t.es m).live ∧ (nth t'.es m).hash = (nth t.es m).hash)
theorem Turned.refl (t : Tb) : Turned t t := .inr ⟨rfl, rfl, rfl, rfl, fun _ => ⟨rfl, rfl⟩⟩
theorem turned_put (t : Tb) (n : Nat) (v : Int) (hn : n < t.es.length) : Turned t (t.putv n v) := by
  refine .inr ⟨rfl, rfl, rfl, by show (t.es.set n _).length = _; rw [List.length_set], fun m => ?_⟩
  show (nth (t.es.set n _) m).live = _ ∧ (nth (t.es.set n _) m).hash = _
  rw [nth_set hn]
  by_cases e : m = n
  · rw [if_pos e, e]; exact ⟨rfl, rfl⟩
  · rw [if_neg e]; exact ⟨rfl, rfl⟩
theorem Turned.told {t t' : Tb} (h : t'.L = t.L ∧ t'.c = t.c ∧ t'.es.length = t.es.length ∧ ∀ m, (nth t'.es m).live = (nth t.es m).live ∧ (nth t'.es m).hash = (nth t.es m).hash) {u : Int} {i : Nat} {told : Int} (ht : Told t.es t.L t.c u i told) : Told t'.es t'.L t'.c u i told := by
  obtain ⟨h1, h2, h3, h4⟩ := h
  intro n hO q hP
  have hO' : Of t.es u n := ⟨by rw [← h3]; exact hO.1, by rw [← (h4 n).1]; exact hO.2.1, by rw [← (h4 n).2]; exact hO.2.2⟩
  refine ht n hO' q ?_
  unfold Pos at hP ⊢
  rw [h1, h2, (h4 n).2] at hP
  exact hP
theorem Lv.turn {w : World} {p : Pl} {t t' : Tb} {s s2 : Nat} (h : Lv w p t s s2) (ht : Turned t t') : Lv w p t' s s2 ∨ Ov w p t' s s2 := by
  rcases ht with ht | ⟨h0, h1⟩
  · exact .inr (h.ends ht)
  · obtain ⟨u, i, told, f, k1, k2, k3, k4, k5, k6, k7⟩ := h
    have k3' := Turned.told h1 k3
    obtain ⟨h1, h2, _⟩ := h1
    refine .inl ⟨u, i, told, f, ?_, ?_, k3', ?_, k5, ?_, k7⟩
    · rw [h0, h1]; exact k1
    · rw [h0, h1]; exact k2
    · rw [h1, h2]; exact k4
    · rw [h1]; exact k6
theorem Turned.le {t t' : Tb} (h : Turned t t') : t.turn ≤ t'.turn := by
  rcases h with h | ⟨h, _⟩ <;> omega
theorem Sq.step {w w' : World} {p p' : Pl} {t t' : Tb} (h : Sq w p t) (e : ∀ k, mB p.sp k ∨ mB p.kp k → w'.heap[k]? = w.heap[k]?) (g1 : p'.g = p.g) (g2 : p'.g2 = p.g2) (s1 : p'.sp = p.sp) (s2 : p'.kp = p.kp) (ht : Turned t t') : Sq w' p' t' := by
  rcases h with h | ⟨s, k, h1, h2, h3⟩
  · exact .inl (by rw [s1]; exact h)
  · refine .inr ⟨s, k, by rw [s1]; exact h1, by rw [s2]; exact h2, ?_⟩
    have e1 := e s (.inl h1)
    have e2 := e k (.inr h2)
    rcases h3 with h3 | h3
    · rcases h3.turn ht with h4 | h4
      · exact .inl (h4.same e1 e2 g1 g2)
      · exact .inr (h4.same e1 e2 g1 g2 (Nat.le_refl _))
    · exact .inr (h3.same e1 e2 g1 g2 ht.le)
theorem Rt.lt {w : World} {g : Nat} {ev : Value} {q : Nat} {t : Tb} {mv : Value} (h : Rt w g ev q t mv) : ∀ k, (k = g ∨ k = q ∨ ev.ownBlock = some k) → k < w.heap.size := by
  rintro k (rfl | rfl | hk)
  · exact h.hd.lt (by omega)
  · exact h.rf.lt (pow2_pos _)
  · exact h.es.lt k hk
theorem Pl.all_x {p : Pl} {X : Nat} : p.all X X := .inl rfl
/-- Other blocks turned: all is as it was. -/
theorem Tw.keep {w w' : World} {X : Nat} {p : Pl} {t : Tb} {mv mr : Value} {M : Int → Int → World → Prop} {a b : Int} (h : Tw w X p t mv mr M a b) (hMo : MtOk mv M) (hs : w.heap.size ≤ w'.heap.size) (e : ∀ k, k < w.heap.size → (p.all X k ∨ mB mv k ∨ mB mr k) → w'.heap[k]? = w.heap[k]?) : Tw w' X p t mv mr M a b := by
  obtain ⟨lab, sp⟩ := h.sep
  have e' : ∀ k, p.all X k → w'.heap[k]? = w.heap[k]? := fun k hk => e k (sp.lt k hk) (.inl hk)
  exact ⟨h.hx.same (e' X (.inl rfl)), h.dt.same (fun k hk => e' k (.inr (.inl hk))), h.rt.same (fun k hk => e' k (.inr (.inr (.inl hk)))), h.ok, hMo.same _ _ _ _ h.m (fun k hk => e k (sp.m k hk).2 (.inr (.inl hk))), h.ms.same (fun k hk => e k (sp.r k hk).2 (.inr (.inr hk))),
    h.sq.step (fun k hk => e' k (.inr (.inr (.inr hk)))) rfl rfl rfl rfl (Turned.refl t), lab, fun k hk => Nat.lt_of_lt_of_le (sp.lt k hk) hs, sp.x, sp.d, sp.e, sp.s, sp.k, fun k hk => ⟨(sp.m k hk).1, Nat.lt_of_lt_of_le (sp.m k hk).2 hs⟩, fun k hk => ⟨(sp.r k hk).1, Nat.lt_of_lt_of_le (sp.r k hk).2 hs⟩⟩
theorem Tw.below {w w' : World} {X : Nat} {p : Pl} {t : Tb} {mv mr : Value} {M : Int → Int → World → Prop} {a b : Int} (h : Tw w X p t mv mr M a b) (hMo : MtOk mv M) (hb : Below w.heap.size w w') : Tw w' X p t mv mr M a b := h.keep hMo hb.size fun k hk _ => hb.block k hk
/-- Behind a call on the table: what the document's call asks. -/
theorem Tw.mid {w w1 : World} {X : Nat} {p : Pl} {t : Tb} {mv mr : Value} {M : Int → Int → World → Prop} {a b : Int} (h : Tw w X p t mv mr M a b) (x1 : Ex (fun j => p.d j ∨ mB mv j) w w1) : RtS w1 p.g2 p.ev2 p.q2 t mr ∧ Ms w1 mr a b 0 0 ∧ Blk w1 X 4 (xF p) := by
  obtain ⟨lab, sp⟩ := h.sep
  have key : ∀ k, k < w.heap.size → lab k ≠ 1 → lab k ≠ 5 → w1.heap[k]? = w.heap[k]? := fun k hk h1 h2 => x1.block k hk (fun hx => hx.elim (fun y => h1 (sp.d k y)) (fun y => h2 (sp.m k y).1))
  refine ⟨h.rt.same fun k hk => ?_, h.ms.same fun k hk => ?_, h.hx.same ?_⟩
  · have := sp.e k hk
    exact key k (sp.lt k (.inr (.inr (.inl hk)))) (by omega) (by omega)
  · have := sp.r k hk
    exact key k this.2 (by omega) (by omega)
  · have := sp.x
    exact key X (sp.lt X (.inl rfl)) (by omega) (by omega)
/-- A call on both, of which each has turned its own. -/
theorem Tw.both {w w1 w2 : World} {X : Nat} {p : Pl} {t t' : Tb} {mv mr : Value} {M : Int → Int → World → Prop} {a b a' b' : Int} (hT : Tw w X p t mv mr M a b) (hMo : MtOk mv M) {gi' r' h' : Nat} {ev' : Value} {q2' : Nat} {ev2' : Value}
    (hd : Dt w1 p.g gi' r' h' ev' t' mv) (fx : ∀ j, dX p.g gi' r' h' ev' j → p.d j ∨ w.heap.size ≤ j) (hm : M a' b' w1) (x1 : Ex (fun j => p.d j ∨ mB mv j) w w1)
    (hr : RtS w2 p.g2 ev2' q2' t' mr) (fx2 : ∀ j, (j = p.g2 ∨ j = q2' ∨ ev2'.ownBlock = some j) → p.e j ∨ w1.heap.size ≤ j) (hms : Ms w2 mr a' b' 0 0) (x2 : Ex (fun j => p.e j ∨ mB mr j) w1 w2) (ok : t'.Ok) (tr : Turned t t') :
    Tw w2 X { p with gi := gi', r := r', h := h', ev := ev', q2 := q2', ev2 := ev2' } t' mv mr M a' b' ∧ (∀ k, Pl.all { p with gi := gi', r := r', h := h', ev := ev', q2 := q2', ev2 := ev2' } X k → p.all X k ∨ w.heap.size ≤ k) ∧ Ex (fun k => p.all X k ∨ mB mv k ∨ mB mr k) w w2 := by
  obtain ⟨lab, sp⟩ := hT.sep
  have s1 := x1.size
  have s2 := x2.size
  have n1 : ∀ k, k < w.heap.size → lab k ≠ 1 → lab k ≠ 5 → w1.heap[k]? = w.heap[k]? := fun k hk h1 h2 => x1.block k hk (fun hx => hx.elim (fun y => h1 (sp.d k y)) (fun y => h2 (sp.m k y).1))
  have n2 : ∀ k, k < w.heap.size → lab k ≠ 2 → lab k ≠ 6 → w2.heap[k]? = w1.heap[k]? := fun k hk h1 h2 => x2.block k (by omega) (fun hx => hx.elim (fun y => h1 (sp.e k y)) (fun y => h2 (sp.r k y).1))
  have n3 : ∀ k, w.heap.size ≤ k → k < w1.heap.size → w2.heap[k]? = w1.heap[k]? := fun k hk hl => x2.block k hl (fun hx => hx.elim (fun y => by have := sp.lt k (.inr (.inr (.inl y))); omega) (fun y => by have := (sp.r k y).2; omega))
  have hdl := hd.lt
  refine ⟨⟨?_, ?_, hr, ok, ?_, hms, ?_, ?_⟩, ?_, ?_⟩
  · have := sp.x
    exact (hT.hx.same ((n2 X (sp.lt X (.inl rfl)) (by omega) (by omega)).trans (n1 X (sp.lt X (.inl rfl)) (by omega) (by omega)))).congr fun j hj => by
      have : j = 0 ∨ j = 1 ∨ j = 2 ∨ j = 3 := by omega
      rcases this with rfl | rfl | rfl | rfl <;> rfl
  · refine hd.same fun k hk => ?_
    rcases fx k hk with y | y
    · have := sp.d k y
      exact n2 k (sp.lt k (.inr (.inl y))) (by omega) (by omega)
    · exact n3 k y (hdl k hk)
  · refine hMo.same _ _ _ _ hm fun k hk => ?_
    have := sp.m k hk
    exact n2 k this.2 (by omega) (by omega)
  · refine hT.sq.step (fun k hk => ?_) rfl rfl rfl rfl tr
    rcases hk with y | y
    · have := sp.s k y
      have hl := sp.lt k (.inr (.inr (.inr (.inl y))))
      exact (n2 k hl (by omega) (by omega)).trans (n1 k hl (by omega) (by omega))
    · have := sp.k k y
      have hl := sp.lt k (.inr (.inr (.inr (.inr y))))
      exact (n2 k hl (by omega) (by omega)).trans (n1 k hl (by omega) (by omega))
  · refine ⟨fun k => if k < w.heap.size then lab k else if k < w1.heap.size then 1 else 2, ?_, ?_, ?_, ?_, ?_, ?_, ?_, ?_⟩
    · rintro k (rfl | y | y | y | y)
      · have := sp.lt _ (.inl rfl); omega
      · have := hdl k y; omega
      · exact hr.lt k y
      · have := sp.lt k (.inr (.inr (.inr (.inl y)))); omega
      · have := sp.lt k (.inr (.inr (.inr (.inr y)))); omega
    · show (if X < w.heap.size then lab X else _) = 0
      rw [if_pos (sp.lt X (.inl rfl))]
      exact sp.x
    · intro k y
      show (if k < w.heap.size then lab k else _) = 1
      rcases fx k y with z | z
      · rw [if_pos (sp.lt k (.inr (.inl z)))]
        exact sp.d k z
      · rw [if_neg (by omega), if_pos (hdl k y)]
    · intro k y
      show (if k < w.heap.size then lab k else _) = 2
      rcases fx2 k y with z | z
      · rw [if_pos (sp.lt k (.inr (.inr (.inl z))))]
        exact sp.e k z
      · rw [if_neg (by omega), if_neg (by omega)]
    · intro k y
      show (if k < w.heap.size then lab k else _) = 3
      rw [if_pos (sp.lt k (.inr (.inr (.inr (.inl y)))))]
      exact sp.s k y
    · intro k y
      show (if k < w.heap.size then lab k else _) = 4
      rw [if_pos (sp.lt k (.inr (.inr (.inr (.inr y)))))]
      exact sp.k k y
    · intro k y
      show (if k < w.heap.size then lab k else _) = 5 ∧ _
      have := sp.m k y
      rw [if_pos this.2]
      exact ⟨this.1, by omega⟩
    · intro k y
      show (if k < w.heap.size then lab k else _) = 6 ∧ _
      have := sp.r k y
      rw [if_pos this.2]
      exact ⟨this.1, by omega⟩
  · rintro k (rfl | y | y | y | y)
    · exact .inl (.inl rfl)
    · exact (fx k y).elim (fun z => .inl (.inr (.inl z))) .inr
    · exact (fx2 k y).elim (fun z => .inl (.inr (.inr (.inl z)))) (fun z => .inr (by omega))
    · exact .inl (.inr (.inr (.inr (.inl y))))
    · exact .inl (.inr (.inr (.inr (.inr y))))
  · exact (x1.mono (fun k _ hk => hk.elim (fun y => .inl (.inr (.inl y))) (fun y => .inr (.inl y)))).next x2 (fun k _ hk => hk.elim (fun y => .inl (.inr (.inr (.inl y)))) (fun y => .inr (.inr y)))
end Go.Proofs.YtdjabdmnknlaeaaGreat
namespace Go.Proofs.YtdjabdmnknlaeaaGreat
open Go.RowKit Go.WideShapes

/-- A value turned, if there is such an entry; an entry killed. -/
noncomputable def Tb.sput (t : Tb) (n v : Int) : Tb := @ite Tb (t.has n) (Classical.propDecidable _) (t.putv n.toNat v) t
noncomputable def Tb.skill (t : Tb) (n : Int) : Tb := @ite Tb (t.has n) (Classical.propDecidable _) (t.kill n.toNat) t
/-- What a step makes of a table. -/
noncomputable def Tb.step (t : Tb) (x0 x1 x2 x3 x4 : Int) : Tb := if x0 = 1 then t.add x1 x2 x3 else if x0 = 2 then t.sput x4 x3 else if x0 = 3 then t.skill x4 else if x0 = 5 then t.clear else if x0 = 6 then t.cp else t
theorem step_add (t : Tb) (x1 x2 x3 x4 : Int) : t.step 1 x1 x2 x3 x4 = t.add x1 x2 x3 := by unfold Tb.step; rw [if_pos rfl]
theorem step_put (t : Tb) (x1 x2 x3 : Int) (m : Nat) (hm : m < t.es.length) (hl : (nth t.es m).live = true) : t.step 2 x1 x2 x3 (m : Int) = t.putv m x3 := by
  unfold Tb.step
  rw [if_neg (by decide), if_pos rfl]
  exact (if_pos ⟨by omega, by omega, by rw [Int.toNat_natCast]; exact hl⟩).trans (by rw [Int.toNat_natCast])
theorem step_put_no (t : Tb) (x1 x2 x3 x4 : Int) (h : ¬ t.has x4) : t.step 2 x1 x2 x3 x4 = t := by
  unfold Tb.step
  rw [if_neg (by decide), if_pos rfl]
  exact if_neg h
theorem step_kill (t : Tb) (x1 x2 x3 : Int) (m : Nat) (hm : m < t.es.length) (hl : (nth t.es m).live = true) : t.step 3 x1 x2 x3 (m : Int) = t.kill m := by
  unfold Tb.step
  rw [if_neg (by decide), if_neg (by decide), if_pos rfl]
  exact (if_pos ⟨by omega, by omega, by rw [Int.toNat_natCast]; exact hl⟩).trans (by rw [Int.toNat_natCast])
theorem step_kill_no (t : Tb) (x1 x2 x3 x4 : Int) (h : ¬ t.has x4) : t.step 3 x1 x2 x3 x4 = t := by
  unfold Tb.step
  rw [if_neg (by decide), if_neg (by decide), if_pos rfl]
  exact if_neg h
theorem step_clear (t : Tb) (x1 x2 x3 x4 : Int) : t.step 5 x1 x2 x3 x4 = t.clear := by unfold Tb.step; rw [if_neg (by decide), if_neg (by decide), if_neg (by decide), if_pos rfl]
theorem step_copy (t : Tb) (x1 x2 x3 x4 : Int) : t.step 6 x1 x2 x3 x4 = t.cp := by unfold Tb.step; rw [if_neg (by decide), if_neg (by decide), if_neg (by decide), if_neg (by decide), if_pos rfl]
theorem step_same (t : Tb) (x0 x1 x2 x3 x4 : Int) (h : x0 ≠ 1 ∧ x0 ≠ 2 ∧ x0 ≠ 3 ∧ x0 ≠ 5 ∧ x0 ≠ 6) : t.step x0 x1 x2 x3 x4 = t := by unfold Tb.step; rw [if_neg h.1, if_neg h.2.1, if_neg h.2.2.1, if_neg h.2.2.2.1, if_neg h.2.2.2.2]
theorem dn_of {w w0 w2 : World} {X : Nat} {p p' : Pl} {t' : Tb} {mv mr : Value} {M : Int → Int → World → Prop} {a' b' : Int} {n : Nat} (hb : Below w.heap.size w w0) (h : Tw w2 X p' t' mv mr M a' b' ∧ (∀ k, p'.all X k → p.all X k ∨ w0.heap.size ≤ k) ∧ Ex (fun k => p.all X k ∨ mB mv k ∨ mB mr k) w0 w2) (bd : Bd t' a' b' n) : Dn w X p mv mr M n p' t' a' b' w2 :=
  ⟨h.1, bd, fun k hk => (h.2.1 k hk).elim .inl (fun x => .inr (Nat.le_trans hb.size x)), (ex_of hb).next h.2.2 (fun _ _ x => x)⟩
/-- A call that has turned nothing. -/
theorem dn_same {w w' : World} {X : Nat} {p : Pl} {t : Tb} {mv mr : Value} {M : Int → Int → World → Prop} {a b : Int} {n : Nat} (h : Tw w X p t mv mr M a b) (hMo : MtOk mv M) (hb : Below w.heap.size w w') (bd : Bd t a b n) : Dn w X p mv mr M (n + 1) p t a b w' :=
  ⟨h.below hMo hb, ⟨by have := bd.1; omega, by have := bd.2.1; omega, by have := bd.2.2.1; omega, bd.2.2.2.1, by have := bd.2.2.2.2.1; omega, bd.2.2.2.2.2.1, by have := bd.2.2.2.2.2.2; omega⟩, fun _ hk => .inl hk, ex_of hb⟩
/-- What does looks at: the four pointers, and the step's ints. -/
theorem Tw.seen {w w0 V : World} {X : Nat} {p : Pl} {t : Tb} {mv mr : Value} {M : Int → Int → World → Prop} {a b : Int} (h : Tw w X p t mv mr M a b) (hMo : MtOk mv M) {x0 x1 x2 x3 x4 : Int} {ty : TypeId} (hw0 : (w.alloc (.cells #[.int .i64 x0, .int .i64 x1, .int .i64 x2, .int .i64 x3, .int .i64 x4] ty)).drew = w0) (hV : Ex (fun k => p.d k ∨ p.e k ∨ mB mv k ∨ mB mr k) w0 V) :
    ((V.cell? ⟨X, 0, none⟩ = some (.pointer (some ⟨p.g, 0, none⟩)) ∧ V.cell? ⟨X, 1, none⟩ = some (.pointer (some ⟨p.g2, 0, none⟩))) ∧ (V.cell? ⟨X, 2, none⟩ = some p.sp ∧ V.cell? ⟨X, 3, none⟩ = some p.kp)) ∧
    ((V.cell? ⟨w.heap.size, 0, none⟩ = some (.int .i64 x0) ∧ V.cell? ⟨w.heap.size, 1, none⟩ = some (.int .i64 x1)) ∧ (V.cell? ⟨w.heap.size, 2, none⟩ = some (.int .i64 x2) ∧ V.cell? ⟨w.heap.size, 3, none⟩ = some (.int .i64 x3) ∧ V.cell? ⟨w.heap.size, 4, none⟩ = some (.int .i64 x4))) := by
  have hb : Below w.heap.size w w0 := by rw [← hw0]; exact ((Below.refl _ w).alloc (Nat.le_refl _) _).drew
  have hs : w0.heap.size = w.heap.size + 1 := by rw [← hw0]; show (w.alloc _).heap.size = _; simp
  obtain ⟨lab, sp⟩ := h.sep
  have hB : Blk w0 w.heap.size 5 (fun j => #[Value.int .i64 x0, .int .i64 x1, .int .i64 x2, .int .i64 x3, .int .i64 x4].getD j .nilFunc) := by rw [← hw0]; exact (Blk.new w #[Value.int .i64 x0, .int .i64 x1, .int .i64 x2, .int .i64 x3, .int .i64 x4] ty).same rfl
  have eX : V.heap[X]? = w0.heap[X]? := hV.block X (by have := sp.lt X (.inl rfl); omega) (fun hx => by
    have h0 := sp.x
    rcases hx with y | y | y | y
    · have := sp.d _ y; omega
    · have := sp.e _ y; omega
    · have := (sp.m _ y).1; omega
    · have := (sp.r _ y).1; omega)
  have eB : V.heap[w.heap.size]? = w0.heap[w.heap.size]? := hV.block _ (by omega) (fun hx => by
    rcases hx with y | y | y | y
    · have := sp.lt _ (.inr (.inl y)); omega
    · have := sp.lt _ (.inr (.inr (.inl y))); omega
    · have := (sp.m _ y).2; omega
    · have := (sp.r _ y).2; omega)
  have hX := (h.below hMo hb).hx.same eX
  have hB' := hB.same eB
  exact ⟨⟨⟨hX.c 0 (by omega), hX.c 1 (by omega)⟩, hX.c 2 (by omega), hX.c 3 (by omega)⟩, ⟨hB'.c 0 (by omega), hB'.c 1 (by omega)⟩, hB'.c 2 (by omega), hB'.c 3 (by omega), hB'.c 4 (by omega)⟩
theorem Tb.add_made (t : Tb) (u k v : Int) : t.made ≤ (t.add u k v).made ∧ (t.add u k v).made ≤ t.made + 1 ∧ (t.add u k v).births = t.births + 1 ∧ (t.add u k v).turn = t.turn + 1 := by
  unfold Tb.add
  by_cases h : t.es.length < rm (2 ^ t.L)
  · rw [if_pos h]
    exact ⟨Nat.le_refl _, Nat.le_succ _, rfl, rfl⟩
  · rw [if_neg h]
    exact ⟨Nat.le_succ _, Nat.le_refl _, rfl, rfl⟩
set_option maxRecDepth 100000 in
set_option maxHeartbeats 4000000 in
theorem does_add {w : World} {X : Nat} {p : Pl} {t : Tb} {pm pr : Option Addr} {M : Int → Int → World → Prop} {a b : Int} {n : Nat} (hT : Tw w X p t (.pointer pm) (.pointer pr) M a b) (hMo : MtOk (.pointer pm) M) (hBd : Bd t a b n) (hn : n ≤ 2000) (x1 x2 x3 x4 : Int) :
    Calls Tryz.prog 10 #[.pointer (some ⟨X, 0, none⟩), .agg #[.int .i64 1, .int .i64 x1, .int .i64 x2, .int .i64 x3, .int .i64 x4]] w fun e w' => e = .returned (.bool true) ∧ ∃ p' a' b', Dn w X p (.pointer pm) (.pointer pr) M (n + 1) p' (t.step 1 x1 x2 x3 x4) a' b' w' := by
  obtain ⟨w0, hw0⟩ : ∃ y, (w.alloc (.cells #[.int .i64 1, .int .i64 x1, .int .i64 x2, .int .i64 x3, .int .i64 x4] 51)).drew = y := ⟨_, rfl⟩
  have hb : Below w.heap.size w w0 := by rw [← hw0]; exact ((Below.refl _ w).alloc (Nat.le_refl _) _).drew
  have hT0 := hT.below hMo hb
  obtain ⟨d1, d2, d3, d4, d5, d6, d7⟩ := hBd
  have C1 := add_any hT0.dt hT0.ok hMo hT0.m (by omega) ⟨by omega, by omega⟩ (by omega) (by omega) x1 x2 x3
  have had := t.add_made x1 x2 x3
  have HSE : Hid (∀ V, Ex (fun k => p.d k ∨ p.e k ∨ mB (.pointer pm) k ∨ mB (.pointer pr) k) w0 V → V.cell? ⟨X, 0, none⟩ = some (.pointer (some ⟨p.g, 0, none⟩)) ∧ V.cell? ⟨w.heap.size, 1, none⟩ = some (.int .i64 x1) ∧ V.cell? ⟨w.heap.size, 2, none⟩ = some (.int .i64 x2) ∧ V.cell? ⟨w.heap.size, 3, none⟩ = some (.int .i64 x3)) := fun V hV => by
    obtain ⟨⟨⟨q0, q1⟩, q2, q3⟩, ⟨r0, r1⟩, r2, r3, r4⟩ := hT.seen hMo hw0 hV
    exact ⟨q0, r1, r2, r3⟩
  have HSE2 : Hid (∀ V, Ex (fun k => p.d k ∨ p.e k ∨ mB (.pointer pm) k ∨ mB (.pointer pr) k) w0 V → V.cell? ⟨X, 1, none⟩ = some (.pointer (some ⟨p.g2, 0, none⟩)) ∧ V.cell? ⟨w.heap.size, 1, none⟩ = some (.int .i64 x1) ∧ V.cell? ⟨w.heap.size, 2, none⟩ = some (.int .i64 x2) ∧ V.cell? ⟨w.heap.size, 3, none⟩ = some (.int .i64 x3)) := fun V hV => by
    obtain ⟨⟨⟨q0, q1⟩, q2, q3⟩, ⟨r0, r1⟩, r2, r3, r4⟩ := hT.seen hMo hw0 hV
    exact ⟨q1, r1, r2, r3⟩
  have s0 := HSE.out w0 (Ex.refl _ _)
  have HW0 := Lib.hid hw0
  have HB := Lib.hid hb
  have HT0 := Lib.hid hT0
  have HMo := Lib.hid hMo
  clear hw0 hb hT0 hT hMo
  go_enter Tryz.func10, Tryz.ntmps10
  go_upto_region 3 with fail
  have s0' := s0
  rw [← HW0.out] at s0'
  go_region_held3 (fun V => V.cell? ⟨X, 0, none⟩ = some (.pointer (some ⟨p.g, 0, none⟩)) ∧ V.cell? ⟨w.heap.size, 1, none⟩ = some (.int .i64 x1) ∧ V.cell? ⟨w.heap.size, 2, none⟩ = some (.int .i64 x2) ∧ V.cell? ⟨w.heap.size, 3, none⟩ = some (.int .i64 x3))
    (first | with_reducible exact s0' | with_reducible exact s1 | fail)
    (first | (go_at_call 7; rw [HW0.out]; refine C1.mono ?_; rintro e w1 ⟨rfl, gi', r', h', ev', hA⟩; have s1 := HSE.out w1 (hA.ex.mono (fun k _ hk => hk.elim .inl (fun x => .inr (.inr (.inl x)))))) | fail)
  have hX1 : Ex (fun k => p.d k ∨ p.e k ∨ mB (.pointer pm) k ∨ mB (.pointer pr) k) w0 w1 := hA.ex.mono (fun k _ hk => hk.elim .inl (fun x => .inr (.inr (.inl x))))
  obtain ⟨hR1, hM1, _⟩ := HT0.out.mid hA.ex
  have hB1d : Below w1.heap.size w1 w1.drew := (Below.refl _ w1).drew
  have C2 := radd_s (hR1.below hB1d) HT0.out.ok (hM1.below hB1d) (by omega) ⟨by omega, by omega⟩ (by omega) (by omega) x1 x2 x3
  have s2 := HSE2.out w1.drew hX1.drew
  have HA := Lib.hid hA
  have HX1 := Lib.hid hX1
  clear hA hX1 hR1 hM1 s0 s0' s1 C1
  go_upto_region 4 with fail
  go_region_held3 (fun V => V.cell? ⟨X, 1, none⟩ = some (.pointer (some ⟨p.g2, 0, none⟩)) ∧ V.cell? ⟨w.heap.size, 1, none⟩ = some (.int .i64 x1) ∧ V.cell? ⟨w.heap.size, 2, none⟩ = some (.int .i64 x2) ∧ V.cell? ⟨w.heap.size, 3, none⟩ = some (.int .i64 x3))
    (first | with_reducible exact s2 | with_reducible exact s3 | fail)
    (first | (go_at_call 23; refine C2.mono ?_; rintro e w2 ⟨rfl, ev2', q2', hq2, he2, hR2, hM2, hx2⟩; have s3 := HSE2.out w2 (HX1.out.drew.next hx2 (fun k hk h => by rcases h with h | h | h | h; exact .inr (.inl (.inl h)); exact .inr (.inl (.inr (.inl h))); exact .inr (.inl (.inr (.inr h))); exact .inr (.inr (.inr h))))) | fail)
  have HF := Lib.hid (dn_of (n := n + 1) HB.out (Tw.both HT0.out HMo.out HA.out.dt HA.out.fx HA.out.m HA.out.ex hR2 (fun j hj => by
    rcases hj with h | h | h
    · exact .inl (.inl h)
    · rcases hq2 with y | y
      · exact .inl (.inr (.inl (h.trans y)))
      · exact .inr (by rw [h]; exact y)
    · rcases he2 j h with y | y
      · exact .inl (.inr (.inr y))
      · exact .inr y) hM2 ((Ex.refl _ w1).drew.next hx2 (fun k hk h => by
        rcases h with h | h | h | h
        · exact .inl (.inl h)
        · exact .inl (.inr (.inl h))
        · exact .inl (.inr (.inr h))
        · exact .inr h)) (HT0.out.ok.add x1 x2 x3 (by omega)) (.inl (by omega))) ⟨by omega, by omega, by omega, by omega, by omega, d6, by omega⟩)
  clear HA hR2 hM2 hx2 hq2 he2 s2 s3 C2 HX1
  go_wp2_with fail
  go_ret
  exact ⟨rfl, _, _, _, by rw [step_add]; exact HF.out⟩
end Go.Proofs.YtdjabdmnknlaeaaGreat
namespace Go.Proofs.YtdjabdmnknlaeaaGreat
open Go.RowKit Go.WideShapes

/-- A call on both that counts nothing, in the places that there were. -/
theorem Tw.both' {w w1 w2 : World} {X : Nat} {p : Pl} {t t' : Tb} {mv mr : Value} {M : Int → Int → World → Prop} {a b : Int} (hT : Tw w X p t mv mr M a b) (hMo : MtOk mv M)
    (hd : Dt w1 p.g p.gi p.r p.h p.ev t' mv) (x1 : Ex p.d w w1) (hr : RtS w2 p.g2 p.ev2 p.q2 t' mr) (x2 : Ex p.e w1 w2) (ok : t'.Ok) (tr : Turned t t') :
    Tw w2 X p t' mv mr M a b ∧ (∀ k, p.all X k → p.all X k ∨ w.heap.size ≤ k) ∧ Ex (fun k => p.all X k ∨ mB mv k ∨ mB mr k) w w2 := by
  obtain ⟨lab, sp⟩ := hT.sep
  have hm : M a b w1 := hMo.same _ _ _ _ hT.m fun k hk => x1.block k (sp.m k hk).2 (fun hx => by have := sp.d k hx; have := (sp.m k hk).1; omega)
  have x1' : Ex (fun j => p.d j ∨ mB mv j) w w1 := x1.mono (fun _ _ h => .inl h)
  have hms : Ms w2 mr a b 0 0 := (hT.mid x1').2.1.same fun k hk => x2.block k (Nat.lt_of_lt_of_le (sp.r k hk).2 x1.size) (fun hx => by have := sp.e k hx; have := (sp.r k hk).1; omega)
  exact Tw.both hT hMo hd (fun j hj => .inl hj) hm x1' hr (fun j hj => .inl hj) hms (x2.mono (fun _ _ h => .inl h)) ok tr
theorem Bd.up {t t' : Tb} {a b : Int} {n : Nat} (h : Bd t a b n) (h1 : t'.births = t.births) (h2 : t'.made = t.made) (h3 : t'.turn ≤ t.turn + 1) : Bd t' a b (n + 1) := by
  obtain ⟨d1, d2, d3, d4, d5, d6, d7⟩ := h
  exact ⟨by omega, by omega, by omega, d4, by omega, d6, by omega⟩
set_option maxRecDepth 100000 in
set_option maxHeartbeats 4000000 in
theorem does_put {w : World} {X : Nat} {p : Pl} {t : Tb} {pm pr : Option Addr} {M : Int → Int → World → Prop} {a b : Int} {n : Nat} (hT : Tw w X p t (.pointer pm) (.pointer pr) M a b) (hMo : MtOk (.pointer pm) M) (hBd : Bd t a b n) (hn : n ≤ 2000) (x1 x2 x3 x4 : Int) :
    Calls Tryz.prog 10 #[.pointer (some ⟨X, 0, none⟩), .agg #[.int .i64 2, .int .i64 x1, .int .i64 x2, .int .i64 x3, .int .i64 x4]] w fun e w' => e = .returned (.bool true) ∧ ∃ p' a' b', Dn w X p (.pointer pm) (.pointer pr) M (n + 1) p' (t.step 2 x1 x2 x3 x4) a' b' w' := by
  obtain ⟨w0, hw0⟩ : ∃ y, (w.alloc (.cells #[.int .i64 2, .int .i64 x1, .int .i64 x2, .int .i64 x3, .int .i64 x4] 51)).drew = y := ⟨_, rfl⟩
  have hb : Below w.heap.size w w0 := by rw [← hw0]; exact ((Below.refl _ w).alloc (Nat.le_refl _) _).drew
  have hT0 := hT.below hMo hb
  have HSE : Hid (∀ V, Ex (fun k => p.d k ∨ p.e k ∨ mB (.pointer pm) k ∨ mB (.pointer pr) k) w0 V → V.cell? ⟨X, 0, none⟩ = some (.pointer (some ⟨p.g, 0, none⟩)) ∧ V.cell? ⟨X, 1, none⟩ = some (.pointer (some ⟨p.g2, 0, none⟩)) ∧ V.cell? ⟨w.heap.size, 4, none⟩ = some (.int .i64 x4) ∧ V.cell? ⟨w.heap.size, 3, none⟩ = some (.int .i64 x3)) := fun V hV => by
    obtain ⟨⟨⟨q0, q1⟩, q2, q3⟩, ⟨r0, r1⟩, r2, r3, r4⟩ := hT.seen hMo hw0 hV
    exact ⟨q0, q1, r4, r3⟩
  have s0 := HSE.out w0 (Ex.refl _ _)
  have hlen : t.es.length ≤ 100000 := Nat.le_trans hT.ok.few hT.ok.all
  have htu : t.turn ≤ 1000000 := by have := hBd.2.2.1; omega
  have HW0 := Lib.hid hw0
  have HB := Lib.hid hb
  have HT0 := Lib.hid hT0
  have HT := Lib.hid hT
  have HMo := Lib.hid hMo
  have HBD := Lib.hid hBd
  rw [← HW0.out] at s0
  rcases has_cases t x4 with ⟨m, rfl, hm, hl⟩ | hno
  · have C1 := put7_yes hT0.dt m x3 hm hl
    have C2 : Hid (∀ V, Ex (fun j => p.d j ∨ mB (.pointer pm) j) w0 V → Calls Tryz.prog 25 #[.pointer (some ⟨p.g2, 0, none⟩), .int .i64 (m : Int), .int .i64 x3] V fun e w' => e = .returned (.int .i64 0) ∧ RtS w' p.g2 p.ev2 p.q2 (t.putv m x3) (.pointer pr) ∧ Ex (fun k => p.ev2.ownBlock = some k) V w') := fun V hV => rput_yes_s (HT0.out.mid hV).1 m x3 hm hl
    clear hw0 hb hT0 hT hMo hBd
    go_enter Tryz.func10, Tryz.ntmps10
    go_upto_region 7 with fail
    go_region_held3 (fun V => V.cell? ⟨X, 0, none⟩ = some (.pointer (some ⟨p.g, 0, none⟩)) ∧ V.cell? ⟨X, 1, none⟩ = some (.pointer (some ⟨p.g2, 0, none⟩)) ∧ V.cell? ⟨w.heap.size, 4, none⟩ = some (.int .i64 (m : Int)) ∧ V.cell? ⟨w.heap.size, 3, none⟩ = some (.int .i64 x3))
      (first | with_reducible exact s0 | with_reducible exact s1 | with_reducible exact s2 | fail)
      (first | (go_at_call 24; rw [HW0.out]; refine C1.mono ?_; rintro e w1 ⟨rfl, hD1, hx1⟩; have hX1 : Ex p.d w0 w1 := hx1.mono (fun k _ hk => .inr (.inr (.inr (.inr hk)))); have s1 := HSE.out w1 (hX1.mono (fun k _ hk => .inl hk))) | (go_at_call 25; refine (C2.out _ (hX1.mono (fun k _ hk => .inl hk))).mono ?_; rintro e w2 ⟨rfl, hR2, hx2⟩; have hX2 : Ex p.e w1 w2 := hx2.mono (fun k _ hk => .inr (.inr hk)); have s2 := HSE.out w2 ((hX1.mono (fun k _ hk => .inl hk)).next hX2 (fun k _ hk => .inr (.inl hk)))) | fail)
    have HF := Lib.hid (dn_of (n := n + 1) HB.out (Tw.both' HT0.out HMo.out hD1 hX1 hR2 hX2 (HT0.out.ok.putv m hm hl x3) (turned_put t m x3 hm)) (HBD.out.up rfl rfl (Nat.le_succ _)))
    clear hD1 hX1 hR2 hX2 hx1 hx2 s0 s1 s2 C1 C2
    go_wp2_with fail
    go_ret
    exact ⟨rfl, _, _, _, by rw [step_put _ _ _ _ m hm hl]; exact HF.out⟩
  · have C1 := put7_no hT0.dt x4 x3 hno
    have C2 := rput_no_s hT0.rt x4 x3 hno
    have HF := Lib.hid (fun V hV => dn_same (w' := V) hT hMo hV hBd)
    clear hw0 hb hT0 hT hMo hBd
    go_enter Tryz.func10, Tryz.ntmps10
    go_upto_region 7 with fail
    go_region_held3 (fun V => V.cell? ⟨X, 0, none⟩ = some (.pointer (some ⟨p.g, 0, none⟩)) ∧ V.cell? ⟨X, 1, none⟩ = some (.pointer (some ⟨p.g2, 0, none⟩)) ∧ V.cell? ⟨w.heap.size, 4, none⟩ = some (.int .i64 x4) ∧ V.cell? ⟨w.heap.size, 3, none⟩ = some (.int .i64 x3))
      (first | with_reducible exact s0 | fail)
      (first | (go_at_call 24; rw [HW0.out]; refine C1.mono ?_; rintro e w1 ⟨rfl, rfl⟩; rw [← HW0.out]) | (go_at_call 25; rw [HW0.out]; refine C2.mono ?_; rintro e w2 ⟨rfl, rfl⟩; rw [← HW0.out]) | fail)
    rw [HW0.out]
    clear C1 C2 s0
    go_wp2_with fail
    go_ret
    exact ⟨rfl, _, _, _, by rw [step_put_no _ _ _ _ _ hno]; exact HF.out _ HB.out⟩
set_option maxRecDepth 100000 in
set_option maxHeartbeats 4000000 in
theorem does_kill {w : World} {X : Nat} {p : Pl} {t : Tb} {pm pr : Option Addr} {M : Int → Int → World → Prop} {a b : Int} {n : Nat} (hT : Tw w X p t (.pointer pm) (.pointer pr) M a b) (hMo : MtOk (.pointer pm) M) (hBd : Bd t a b n) (hn : n ≤ 2000) (x1 x2 x3 x4 : Int) :
    Calls Tryz.prog 10 #[.pointer (some ⟨X, 0, none⟩), .agg #[.int .i64 3, .int .i64 x1, .int .i64 x2, .int .i64 x3, .int .i64 x4]] w fun e w' => e = .returned (.bool true) ∧ ∃ p' a' b', Dn w X p (.pointer pm) (.pointer pr) M (n + 1) p' (t.step 3 x1 x2 x3 x4) a' b' w' := by
  obtain ⟨w0, hw0⟩ : ∃ y, (w.alloc (.cells #[.int .i64 3, .int .i64 x1, .int .i64 x2, .int .i64 x3, .int .i64 x4] 51)).drew = y := ⟨_, rfl⟩
  have hb : Below w.heap.size w w0 := by rw [← hw0]; exact ((Below.refl _ w).alloc (Nat.le_refl _) _).drew
  have hT0 := hT.below hMo hb
  have HSE : Hid (∀ V, Ex (fun k => p.d k ∨ p.e k ∨ mB (.pointer pm) k ∨ mB (.pointer pr) k) w0 V → V.cell? ⟨X, 0, none⟩ = some (.pointer (some ⟨p.g, 0, none⟩)) ∧ V.cell? ⟨X, 1, none⟩ = some (.pointer (some ⟨p.g2, 0, none⟩)) ∧ V.cell? ⟨w.heap.size, 4, none⟩ = some (.int .i64 x4)) := fun V hV => by
    obtain ⟨⟨⟨q0, q1⟩, q2, q3⟩, ⟨r0, r1⟩, r2, r3, r4⟩ := hT.seen hMo hw0 hV
    exact ⟨q0, q1, r4⟩
  have s0 := HSE.out w0 (Ex.refl _ _)
  have hlen : t.es.length ≤ 100000 := Nat.le_trans hT.ok.few hT.ok.all
  have htu : t.turn ≤ 1000000 := by have := hBd.2.2.1; omega
  have HW0 := Lib.hid hw0
  have HB := Lib.hid hb
  have HT0 := Lib.hid hT0
  have HT := Lib.hid hT
  have HMo := Lib.hid hMo
  have HBD := Lib.hid hBd
  rw [← HW0.out] at s0
  rcases has_cases t x4 with ⟨m, rfl, hm, hl⟩ | hno
  · have C1 := kill_yes hT0.dt hT0.ok m hm hl htu
    have C2 : Hid (∀ V, Ex (fun j => p.d j ∨ mB (.pointer pm) j) w0 V → Calls Tryz.prog 27 #[.pointer (some ⟨p.g2, 0, none⟩), .int .i64 (m : Int)] V fun e w' => e = .returned (.int .i64 0) ∧ RtS w' p.g2 p.ev2 p.q2 (t.kill m) (.pointer pr) ∧ Ex (fun k => k = p.g2 ∨ k = p.q2 ∨ p.ev2.ownBlock = some k) V w') := fun V hV => rkill_yes_s (HT0.out.mid hV).1 m hm hl hlen htu
    clear hw0 hb hT0 hT hMo hBd
    go_enter Tryz.func10, Tryz.ntmps10
    go_upto_region 9 with fail
    go_region_held3 (fun V => V.cell? ⟨X, 0, none⟩ = some (.pointer (some ⟨p.g, 0, none⟩)) ∧ V.cell? ⟨X, 1, none⟩ = some (.pointer (some ⟨p.g2, 0, none⟩)) ∧ V.cell? ⟨w.heap.size, 4, none⟩ = some (.int .i64 (m : Int)))
      (first | with_reducible exact s0 | with_reducible exact s1 | with_reducible exact s2 | fail)
      (first | (go_at_call 26; rw [HW0.out]; refine C1.mono ?_; rintro e w1 ⟨rfl, hD1, hx1⟩; have hX1 : Ex p.d w0 w1 := hx1.mono (fun k _ hk => hk); have s1 := HSE.out w1 (hX1.mono (fun k _ hk => .inl hk))) | (go_at_call 27; refine (C2.out _ (hX1.mono (fun k _ hk => .inl hk))).mono ?_; rintro e w2 ⟨rfl, hR2, hx2⟩; have hX2 : Ex p.e w1 w2 := hx2.mono (fun k _ hk => hk); have s2 := HSE.out w2 ((hX1.mono (fun k _ hk => .inl hk)).next hX2 (fun k _ hk => .inr (.inl hk)))) | fail)
    have HF := Lib.hid (dn_of (n := n + 1) HB.out (Tw.both' HT0.out HMo.out hD1 hX1 hR2 hX2 (HT0.out.ok.kill m hm hl) (.inl (Nat.lt_succ_self _))) (HBD.out.up rfl rfl (Nat.le_refl _)))
    clear hD1 hX1 hR2 hX2 hx1 hx2 s0 s1 s2 C1 C2
    go_wp2_with fail
    go_ret
    exact ⟨rfl, _, _, _, by rw [step_kill _ _ _ _ m hm hl]; exact HF.out⟩
  · have C1 := kill_no hT0.dt x4 hno
    have C2 := rkill_no_s hT0.rt x4 hno
    have HF := Lib.hid (fun V hV => dn_same (w' := V) hT hMo hV hBd)
    clear hw0 hb hT0 hT hMo hBd
    go_enter Tryz.func10, Tryz.ntmps10
    go_upto_region 9 with fail
    go_region_held3 (fun V => V.cell? ⟨X, 0, none⟩ = some (.pointer (some ⟨p.g, 0, none⟩)) ∧ V.cell? ⟨X, 1, none⟩ = some (.pointer (some ⟨p.g2, 0, none⟩)) ∧ V.cell? ⟨w.heap.size, 4, none⟩ = some (.int .i64 x4))
      (first | with_reducible exact s0 | fail)
      (first | (go_at_call 26; rw [HW0.out]; refine C1.mono ?_; rintro e w1 ⟨rfl, rfl⟩; rw [← HW0.out]) | (go_at_call 27; rw [HW0.out]; refine C2.mono ?_; rintro e w2 ⟨rfl, rfl⟩; rw [← HW0.out]) | fail)
    rw [HW0.out]
    clear C1 C2 s0
    go_wp2_with fail
    go_ret
    exact ⟨rfl, _, _, _, by rw [step_kill_no _ _ _ _ _ hno]; exact HF.out _ HB.out⟩
end Go.Proofs.YtdjabdmnknlaeaaGreat
