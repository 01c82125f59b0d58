/-
  Two tables of slots, and what is only read beside them.
-/
import Derived.Test.YtmeljhnmpopkhaaSlPlay
namespace Go.Proofs.Ytmeljhnmpopkhaa
open Go.RowKit Go.WideShapes

/-- append(nil, x...), as one step of a region that draws. -/
theorem stepS_append_nil {P : Program} {ops : Array Oper} {o : Oper} {a : Act} {w : World} {K : Act → World → Prop} {Q : Exit → Act → World → Prop} {E : Prop} (hgd : o.guard = none) (s x : Operand) (t : TypeId)
    (ho : o.op = .call { callee := .builtin .append, args := #[s, x], argTypes := #[t, t] })
    (e : TypeId) (i : TypeInfo) (z : Value) (size bytes : Nat) (ht : P.underlying t = some (.slice e)) (hi : P.info? e = some i) (hz : i.zero = some z)
    (hsize : i.size = size) (hby : i.bytes = bytes) (hzs : z.cells.size = size) (hsz : 0 < size)
    (hs : a.eval s = .slice none 0 0) (ax : Option Addr) (m c : Nat) (hx : a.eval x = .slice ax m c) (hax : ax = none → m = 0 ∧ c = 0) (news : List Value) (hl : news.length = m * size) (hnews : ∀ ad, ax = some ad → ∀ j u, news[j]? = some u → w.cell? (ad.add j) = some u) (h1 : ∀ u ∈ news, u.oneCell' = true)
    (h63 : m ≤ maxLen) (hbytes : m * bytes ≤ 140737488355328)
    (h : ∀ v' w', w'.ownsRow w.heap.size e size v' m news → Below w.heap.size w w' → K (a.put o.dst v') w') :
    if Region.wanted o (yielded ops a.tmps) = true then Oper.wp P o a w K Q else E := by
  have hw : Region.wanted o (yielded ops a.tmps) = true := by simp [Region.wanted, hgd]
  rw [if_pos hw]
  cases hxx : ax with
  | none =>
    obtain ⟨rfl, rfl⟩ := hax hxx
    subst hxx
    obtain rfl : news = [] := List.eq_nil_of_length_eq_zero (by omega)
    have hr := run_append_owned_none (P := P) (w := w) w.heap.size t o.type e i size ht hi (.slice none 0 0) 0 [] (World.ownsRow_nil _ _ _ _)
    unfold Oper.wp
    simp [execOp, ho, resolve, invoke, builtin, hs, hx, hr, Result.andThen]
    exact h _ _ (World.ownsRow_nil _ _ _ _) (Below.refl _ _)
  | some ad =>
    subst hxx
    obtain ⟨v', w', hr, h2, h3, _, h5⟩ := run_append_own_at (P := P) w w.heap.size t o.type e i z size bytes ht hi hz hsize hby hzs hsz (.slice none 0 0) 0 [] (World.ownsRow_nil _ _ _ _) ad m c news hl (hnews ad rfl) h1 (by omega) (by rw [Nat.zero_add]; exact hbytes) (Nat.le_refl _)
    unfold Oper.wp execOp
    simp only [ho, resolve, invoke, builtin, Sem.run_bind, Sem.run_pure, Result.andThen_ok, List.map_toArray, List.map_cons, List.map_nil, hs, hx, hr]
    rw [Nat.zero_add, List.nil_append] at h2
    exact h v' w' h2 ((Below.refl _ w).grown h3 (Nat.le_refl _) (fun k e => by cases e))
/-- Two pairs of tables; R: what is only read, as it was in W0. -/
structure Tp (w W0 wr : World) (ga qa : Nat) (sa : List So) (Xa Ya Za : Nat → Prop) (gb qb : Nat) (sb : List So) (Xb Yb Zb R : Nat → Prop) : Prop where
  a : Bo wr ga qa sa Xa Ya Za
  b : Bo wr gb qb sb Xb Yb Zb
  ab : ∀ k, Xa k ∨ Ya k → ¬ Xb k ∧ ¬ Yb k ∧ ¬ Zb k ∧ ¬ R k
  ba : ∀ k, Xb k ∨ Yb k → ¬ Za k ∧ ¬ R k
  r : ∀ k, R k → k < W0.heap.size ∧ wr.heap[k]? = W0.heap[k]?
  gs : W0.heap.size ≤ wr.heap.size
  ga0 : ∀ k, Xa k ∨ Ya k → w.heap.size ≤ k
  gb0 : ∀ k, Xb k ∨ Yb k → w.heap.size ≤ k
  be : Below w.heap.size w wr
theorem Bo.lts {w : World} {g q : Nat} {ss : List So} {X Y Z : Nat → Prop} (h : Bo w g q ss X Y Z) : ∀ k, X k ∨ Y k ∨ Z k → k < w.heap.size := by
  intro k hk
  rcases hk with hk | hk | hk
  · exact h.sl.lt k hk
  · exact h.rq.lt.1 k hk
  · exact h.rq.lt.2 k hk
theorem Bo.ex {w w' : World} {g q : Nat} {ss : List So} {X Y Z U : Nat → Prop} (h : Bo w g q ss X Y Z) (x : Ex U w w') (d : ∀ k, U k → ¬ X k ∧ ¬ Y k ∧ ¬ Z k) : Bo w' g q ss X Y Z :=
  ⟨h.sl.keep x (fun k hk hu => (d k hu).1 hk), h.rq.keep x (fun k hu => (d k hu).2), h.xy⟩
theorem Tp.stepA {w W0 wr w1 : World} {ga qa : Nat} {sa sa' : List So} {Xa Ya Za : Nat → Prop} {gb qb : Nat} {sb : List So} {Xb Yb Zb R : Nat → Prop} (h : Tp w W0 wr ga qa sa Xa Ya Za gb qb sb Xb Yb Zb R) (d : Dd wr w1 ga qa sa' Xa Ya Za) : ∃ X Y Z, Tp w W0 w1 ga qa sa' X Y Z gb qb sb Xb Yb Zb R := by
  obtain ⟨X', Y', Z', hB, h1, h2, h3, ex⟩ := d
  have hlb := h.b.lts
  have hs := h.be.size
  have gs := h.gs
  refine ⟨X', Y', Z', hB, h.b.ex ex (fun k hk => ⟨(h.ab k hk).1, (h.ab k hk).2.1, (h.ab k hk).2.2.1⟩), fun k hk => ?_, fun k hk => ⟨fun hz => ?_, (h.ba k hk).2⟩, fun k hk => ⟨(h.r k hk).1, ?_⟩, Nat.le_trans gs ex.size, fun k hk => ?_, h.gb0, h.be.trans (ex.below h.ga0 hs)⟩
  · have key : (Xa k ∨ Ya k) ∨ wr.heap.size ≤ k := by
      rcases hk with hk | hk
      · rcases h1 k hk with e | e
        · exact Or.inl (Or.inl e)
        · exact Or.inr e
      · rcases h2 k hk with e | e
        · exact Or.inl (Or.inr e)
        · exact Or.inr e
    rcases key with e | e
    · exact h.ab k e
    · refine ⟨fun hx => ?_, fun hx => ?_, fun hx => ?_, fun hx => ?_⟩
      · have := hlb k (Or.inl hx); omega
      · have := hlb k (Or.inr (Or.inl hx)); omega
      · have := hlb k (Or.inr (Or.inr hx)); omega
      · have := (h.r k hx).1; omega
  · rcases h3 k hz with e | e
    · exact (h.ba k hk).1 e
    · have : k < wr.heap.size := hlb k (by rcases hk with hk | hk; exact Or.inl hk; exact Or.inr (Or.inl hk))
      omega
  · rw [← (h.r k hk).2]
    refine ex.block k (by have := (h.r k hk).1; omega) (fun hx => (h.ab k hx).2.2.2 hk)
  · rcases hk with hk | hk
    · rcases h1 k hk with e | e
      · exact h.ga0 k (Or.inl e)
      · omega
    · rcases h2 k hk with e | e
      · exact h.ga0 k (Or.inr e)
      · omega
theorem Tp.stepB {w W0 wr w1 : World} {ga qa : Nat} {sa sb' : List So} {Xa Ya Za : Nat → Prop} {gb qb : Nat} {sb : List So} {Xb Yb Zb R : Nat → Prop} (h : Tp w W0 wr ga qa sa Xa Ya Za gb qb sb Xb Yb Zb R) (d : Dd wr w1 gb qb sb' Xb Yb Zb) : ∃ X Y Z, Tp w W0 w1 ga qa sa Xa Ya Za gb qb sb' X Y Z R := by
  obtain ⟨X', Y', Z', hB, h1, h2, h3, ex⟩ := d
  have hla := h.a.lts
  have hs := h.be.size
  have gs := h.gs
  have hnab : ∀ k, Xb k ∨ Yb k → ¬ Xa k ∧ ¬ Ya k ∧ ¬ Za k := fun k hk => ⟨fun hx => by rcases hk with e | e; exact (h.ab k (Or.inl hx)).1 e; exact (h.ab k (Or.inl hx)).2.1 e, fun hx => by rcases hk with e | e; exact (h.ab k (Or.inr hx)).1 e; exact (h.ab k (Or.inr hx)).2.1 e, (h.ba k hk).1⟩
  refine ⟨X', Y', Z', h.a.ex ex hnab, hB, fun k hk => ?_, fun k hk => ?_, fun k hk => ⟨(h.r k hk).1, ?_⟩, Nat.le_trans gs ex.size, h.ga0, fun k hk => ?_, h.be.trans (ex.below h.gb0 hs)⟩
  · have hkl : k < wr.heap.size := hla k (by rcases hk with hk | hk; exact Or.inl hk; exact Or.inr (Or.inl hk))
    obtain ⟨m1, m2, m3, m4⟩ := h.ab k hk
    refine ⟨fun hx => ?_, fun hx => ?_, fun hx => ?_, m4⟩
    · rcases h1 k hx with e | e
      · exact m1 e
      · omega
    · rcases h2 k hx with e | e
      · exact m2 e
      · omega
    · rcases h3 k hx with e | e
      · exact m3 e
      · omega
  · have key : (Xb k ∨ Yb k) ∨ wr.heap.size ≤ k := by
      rcases hk with hk | hk
      · rcases h1 k hk with e | e
        · exact Or.inl (Or.inl e)
        · exact Or.inr e
      · rcases h2 k hk with e | e
        · exact Or.inl (Or.inr e)
        · exact Or.inr e
    rcases key with e | e
    · exact h.ba k e
    · refine ⟨fun hx => ?_, fun hx => ?_⟩
      · have := hla k (Or.inr (Or.inr hx)); omega
      · have := (h.r k hx).1; omega
  · rw [← (h.r k hk).2]
    refine ex.block k (by have := (h.r k hk).1; omega) (fun hx => (h.ba k hx).2 hk)
  · rcases hk with hk | hk
    · rcases h1 k hk with e | e
      · exact h.gb0 k (Or.inl e)
      · omega
    · rcases h2 k hk with e | e
      · exact h.gb0 k (Or.inr e)
      · omega
theorem Tp.keep {w W0 wr w1 : World} {ga qa : Nat} {sa : List So} {Xa Ya Za : Nat → Prop} {gb qb : Nat} {sb : List So} {Xb Yb Zb R : Nat → Prop} (h : Tp w W0 wr ga qa sa Xa Ya Za gb qb sb Xb Yb Zb R) (b : Below wr.heap.size wr w1) : Tp w W0 w1 ga qa sa Xa Ya Za gb qb sb Xb Yb Zb R :=
  ⟨h.a.keep b, h.b.keep b, h.ab, h.ba, fun k hk => ⟨(h.r k hk).1, (b.block k (by have := (h.r k hk).1; have := h.gs; omega)).trans (h.r k hk).2⟩, Nat.le_trans h.gs b.size, h.ga0, h.gb0, h.be.trans (b.mono h.be.size)⟩
/-- From here on more is only read. -/
theorem Tp.read {w W0 wr : World} {ga qa : Nat} {sa : List So} {Xa Ya Za : Nat → Prop} {gb qb : Nat} {sb : List So} {Xb Yb Zb R R' : Nat → Prop} (h : Tp w W0 wr ga qa sa Xa Ya Za gb qb sb Xb Yb Zb R) (h1 : ∀ k, R' k → k < wr.heap.size) (h2 : ∀ k, Xa k ∨ Ya k → ¬ R' k) (h3 : ∀ k, Xb k ∨ Yb k → ¬ R' k) : Tp w wr wr ga qa sa Xa Ya Za gb qb sb Xb Yb Zb R' :=
  ⟨h.a, h.b, fun k hk => ⟨(h.ab k hk).1, (h.ab k hk).2.1, (h.ab k hk).2.2.1, h2 k hk⟩, fun k hk => ⟨(h.ba k hk).1, h3 k hk⟩, fun k hk => ⟨h1 k hk, rfl⟩, Nat.le_refl _, h.ga0, h.gb0, h.be⟩
end Go.Proofs.Ytmeljhnmpopkhaa
