/-
  A zero table beside the document's: as Tw, without a word of the table itself.
  Sight of a zero table.
-/
import Derived.Test.YtdjabdmnknlaeaaGreatTwa
import Derived.Test.YtdjabdmnknlaeaaGreatZta
import Derived.Test.YtdjabdmnknlaeaaGreatSgt
namespace Go.Proofs.YtdjabdmnknlaeaaGreat
open Go.RowKit Go.WideShapes

structure Tv (w : World) (X : Nat) (p : Pl) (t : Tb) (mv mr : Value) (M : Int → Int → World → Prop) (a b : Int) : Prop where
  hx : Blk w X 4 (xF p)
  rt : RtS w p.g2 p.ev2 p.q2 t mr
  ok : t.Ok
  m : M a b w
  ms : Ms w mr a b 0 0
  sq : Sq w p t
  sep : ∃ lab, Sep w.heap.size X p mv mr lab
/-- Where a zero table's own parts lie: nowhere. -/
structure Zp (p : Pl) : Prop where
  gi : p.gi = p.g
  r : p.r = p.g
  h : p.h = p.g
  ev : p.ev = .slice none 0 0
  sp : p.sp = .pointer none
  kp : p.kp = .pointer none
theorem Tv.keep {w w' : World} {X : Nat} {p : Pl} {t : Tb} {mv mr : Value} {M : Int → Int → World → Prop} {a b : Int} (h : Tv w X p t mv mr M a b) (hMo : MtOk mv M) (hs : w.heap.size ≤ w'.heap.size) (e : ∀ k, k < w.heap.size → (p.all X k ∨ mB mv k ∨ mB mr k) → w'.heap[k]? = w.heap[k]?) : Tv w' X p t mv mr M a b := by
  obtain ⟨lab, sp⟩ := h.sep
  have e' : ∀ k, p.all X k → w'.heap[k]? = w.heap[k]? := fun k hk => e k (sp.lt k hk) (.inl hk)
  exact ⟨h.hx.same (e' X (.inl rfl)), h.rt.same (fun k hk => e' k (.inr (.inr (.inl hk)))), h.ok, hMo.same _ _ _ _ h.m (fun k hk => e k (sp.m k hk).2 (.inr (.inl hk))), h.ms.same (fun k hk => e k (sp.r k hk).2 (.inr (.inr hk))),
    h.sq.step (fun k hk => e' k (.inr (.inr (.inr hk)))) rfl rfl rfl rfl (Turned.refl t), lab, fun k hk => Nat.lt_of_lt_of_le (sp.lt k hk) hs, sp.x, sp.d, sp.e, sp.s, sp.k, fun k hk => ⟨(sp.m k hk).1, Nat.lt_of_lt_of_le (sp.m k hk).2 hs⟩, fun k hk => ⟨(sp.r k hk).1, Nat.lt_of_lt_of_le (sp.r k hk).2 hs⟩⟩
theorem Tv.below {w w' : World} {X : Nat} {p : Pl} {t : Tb} {mv mr : Value} {M : Int → Int → World → Prop} {a b : Int} (h : Tv w X p t mv mr M a b) (hMo : MtOk mv M) (hb : Below w.heap.size w w') : Tv w' X p t mv mr M a b := h.keep hMo hb.size fun k hk _ => hb.block k hk
theorem Tv.mid {w w1 : World} {X : Nat} {p : Pl} {t : Tb} {mv mr : Value} {M : Int → Int → World → Prop} {a b : Int} (h : Tv w X p t mv mr M a b) (x1 : Ex (fun j => p.d j ∨ mB mv j) w w1) : RtS w1 p.g2 p.ev2 p.q2 t mr ∧ Ms w1 mr a b 0 0 ∧ Blk w1 X 4 (xF p) := by
  obtain ⟨lab, sp⟩ := h.sep
  have key : ∀ k, k < w.heap.size → lab k ≠ 1 → lab k ≠ 5 → w1.heap[k]? = w.heap[k]? := fun k hk h1 h2 => x1.block k hk (fun hx => hx.elim (fun y => h1 (sp.d k y)) (fun y => h2 (sp.m k y).1))
  refine ⟨h.rt.same fun k hk => ?_, h.ms.same fun k hk => ?_, h.hx.same ?_⟩
  · have := sp.e k hk
    exact key k (sp.lt k (.inr (.inr (.inl hk)))) (by omega) (by omega)
  · have := sp.r k hk
    exact key k this.2 (by omega) (by omega)
  · have := sp.x
    exact key X (sp.lt X (.inl rfl)) (by omega) (by omega)
theorem Tv.both {w w1 w2 : World} {X : Nat} {p : Pl} {t t' : Tb} {mv mr : Value} {M : Int → Int → World → Prop} {a b a' b' : Int} (hT : Tv w X p t mv mr M a b) (hMo : MtOk mv M) {gi' r' h' : Nat} {ev' : Value} {q2' : Nat} {ev2' : Value}
    (hd : Dt w1 p.g gi' r' h' ev' t' mv) (fx : ∀ j, dX p.g gi' r' h' ev' j → p.d j ∨ w.heap.size ≤ j) (hm : M a' b' w1) (x1 : Ex (fun j => p.d j ∨ mB mv j) w w1)
    (hr : RtS w2 p.g2 ev2' q2' t' mr) (fx2 : ∀ j, (j = p.g2 ∨ j = q2' ∨ ev2'.ownBlock = some j) → p.e j ∨ w1.heap.size ≤ j) (hms : Ms w2 mr a' b' 0 0) (x2 : Ex (fun j => p.e j ∨ mB mr j) w1 w2) (ok : t'.Ok) (tr : Turned t t') :
    Tw w2 X { p with gi := gi', r := r', h := h', ev := ev', q2 := q2', ev2 := ev2' } t' mv mr M a' b' ∧ (∀ k, Pl.all { p with gi := gi', r := r', h := h', ev := ev', q2 := q2', ev2 := ev2' } X k → p.all X k ∨ w.heap.size ≤ k) ∧ Ex (fun k => p.all X k ∨ mB mv k ∨ mB mr k) w w2 := by
  obtain ⟨lab, sp⟩ := hT.sep
  have s1 := x1.size
  have s2 := x2.size
  have n1 : ∀ k, k < w.heap.size → lab k ≠ 1 → lab k ≠ 5 → w1.heap[k]? = w.heap[k]? := fun k hk h1 h2 => x1.block k hk (fun hx => hx.elim (fun y => h1 (sp.d k y)) (fun y => h2 (sp.m k y).1))
  have n2 : ∀ k, k < w.heap.size → lab k ≠ 2 → lab k ≠ 6 → w2.heap[k]? = w1.heap[k]? := fun k hk h1 h2 => x2.block k (by omega) (fun hx => hx.elim (fun y => h1 (sp.e k y)) (fun y => h2 (sp.r k y).1))
  have n3 : ∀ k, w.heap.size ≤ k → k < w1.heap.size → w2.heap[k]? = w1.heap[k]? := fun k hk hl => x2.block k hl (fun hx => hx.elim (fun y => by have := sp.lt k (.inr (.inr (.inl y))); omega) (fun y => by have := (sp.r k y).2; omega))
  have hdl := hd.lt
  refine ⟨⟨?_, ?_, hr, ok, ?_, hms, ?_, ?_⟩, ?_, ?_⟩
  · have := sp.x
    exact (hT.hx.same ((n2 X (sp.lt X (.inl rfl)) (by omega) (by omega)).trans (n1 X (sp.lt X (.inl rfl)) (by omega) (by omega)))).congr fun j hj => by
      have : j = 0 ∨ j = 1 ∨ j = 2 ∨ j = 3 := by omega
      rcases this with rfl | rfl | rfl | rfl <;> rfl
  · refine hd.same fun k hk => ?_
    rcases fx k hk with y | y
    · have := sp.d k y
      exact n2 k (sp.lt k (.inr (.inl y))) (by omega) (by omega)
    · exact n3 k y (hdl k hk)
  · refine hMo.same _ _ _ _ hm fun k hk => ?_
    have := sp.m k hk
    exact n2 k this.2 (by omega) (by omega)
  · refine hT.sq.step (fun k hk => ?_) rfl rfl rfl rfl tr
    rcases hk with y | y
    · have := sp.s k y
      have hl := sp.lt k (.inr (.inr (.inr (.inl y))))
      exact (n2 k hl (by omega) (by omega)).trans (n1 k hl (by omega) (by omega))
    · have := sp.k k y
      have hl := sp.lt k (.inr (.inr (.inr (.inr y))))
      exact (n2 k hl (by omega) (by omega)).trans (n1 k hl (by omega) (by omega))
  · refine ⟨fun k => if k < w.heap.size then lab k else if k < w1.heap.size then 1 else 2, ?_, ?_, ?_, ?_, ?_, ?_, ?_, ?_⟩
    · rintro k (rfl | y | y | y | y)
      · have := sp.lt _ (.inl rfl); omega
      · have := hdl k y; omega
      · exact hr.lt k y
      · have := sp.lt k (.inr (.inr (.inr (.inl y)))); omega
      · have := sp.lt k (.inr (.inr (.inr (.inr y)))); omega
    · show (if X < w.heap.size then lab X else _) = 0
      rw [if_pos (sp.lt X (.inl rfl))]
      exact sp.x
    · intro k y
      show (if k < w.heap.size then lab k else _) = 1
      rcases fx k y with z | z
      · rw [if_pos (sp.lt k (.inr (.inl z)))]
        exact sp.d k z
      · rw [if_neg (by omega), if_pos (hdl k y)]
    · intro k y
      show (if k < w.heap.size then lab k else _) = 2
      rcases fx2 k y with z | z
      · rw [if_pos (sp.lt k (.inr (.inr (.inl z))))]
        exact sp.e k z
      · rw [if_neg (by omega), if_neg (by omega)]
    · intro k y
      show (if k < w.heap.size then lab k else _) = 3
      rw [if_pos (sp.lt k (.inr (.inr (.inr (.inl y)))))]
      exact sp.s k y
    · intro k y
      show (if k < w.heap.size then lab k else _) = 4
      rw [if_pos (sp.lt k (.inr (.inr (.inr (.inr y)))))]
      exact sp.k k y
    · intro k y
      show (if k < w.heap.size then lab k else _) = 5 ∧ _
      have := sp.m k y
      rw [if_pos this.2]
      exact ⟨this.1, by omega⟩
    · intro k y
      show (if k < w.heap.size then lab k else _) = 6 ∧ _
      have := sp.r k y
      rw [if_pos this.2]
      exact ⟨this.1, by omega⟩
  · rintro k (rfl | y | y | y | y)
    · exact .inl (.inl rfl)
    · exact (fx k y).elim (fun z => .inl (.inr (.inl z))) .inr
    · exact (fx2 k y).elim (fun z => .inl (.inr (.inr (.inl z)))) (fun z => .inr (by omega))
    · exact .inl (.inr (.inr (.inr (.inl y))))
    · exact .inl (.inr (.inr (.inr (.inr y))))
  · exact (x1.mono (fun k _ hk => hk.elim (fun y => .inl (.inr (.inl y))) (fun y => .inr (.inl y)))).next x2 (fun k _ hk => hk.elim (fun y => .inl (.inr (.inr (.inl y)))) (fun y => .inr (.inr y)))
theorem Tv.seen {w w0 V : World} {X : Nat} {p : Pl} {t : Tb} {mv mr : Value} {M : Int → Int → World → Prop} {a b : Int} (h : Tv w X p t mv mr M a b) (hMo : MtOk mv M) {x0 x1 x2 x3 x4 : Int} {ty : TypeId} (hw0 : (w.alloc (.cells #[.int .i64 x0, .int .i64 x1, .int .i64 x2, .int .i64 x3, .int .i64 x4] ty)).drew = w0) (hV : Ex (fun k => p.d k ∨ p.e k ∨ mB mv k ∨ mB mr k) w0 V) :
    ((V.cell? ⟨X, 0, none⟩ = some (.pointer (some ⟨p.g, 0, none⟩)) ∧ V.cell? ⟨X, 1, none⟩ = some (.pointer (some ⟨p.g2, 0, none⟩))) ∧ (V.cell? ⟨X, 2, none⟩ = some p.sp ∧ V.cell? ⟨X, 3, none⟩ = some p.kp)) ∧
    ((V.cell? ⟨w.heap.size, 0, none⟩ = some (.int .i64 x0) ∧ V.cell? ⟨w.heap.size, 1, none⟩ = some (.int .i64 x1)) ∧ (V.cell? ⟨w.heap.size, 2, none⟩ = some (.int .i64 x2) ∧ V.cell? ⟨w.heap.size, 3, none⟩ = some (.int .i64 x3) ∧ V.cell? ⟨w.heap.size, 4, none⟩ = some (.int .i64 x4))) := by
  have hb : Below w.heap.size w w0 := by rw [← hw0]; exact ((Below.refl _ w).alloc (Nat.le_refl _) _).drew
  have hs : w0.heap.size = w.heap.size + 1 := by rw [← hw0]; show (w.alloc _).heap.size = _; simp
  obtain ⟨lab, sp⟩ := h.sep
  have hB : Blk w0 w.heap.size 5 (fun j => #[Value.int .i64 x0, .int .i64 x1, .int .i64 x2, .int .i64 x3, .int .i64 x4].getD j .nilFunc) := by rw [← hw0]; exact (Blk.new w #[Value.int .i64 x0, .int .i64 x1, .int .i64 x2, .int .i64 x3, .int .i64 x4] ty).same rfl
  have eX : V.heap[X]? = w0.heap[X]? := hV.block X (by have := sp.lt X (.inl rfl); omega) (fun hx => by
    have h0 := sp.x
    rcases hx with y | y | y | y
    · have := sp.d _ y; omega
    · have := sp.e _ y; omega
    · have := (sp.m _ y).1; omega
    · have := (sp.r _ y).1; omega)
  have eB : V.heap[w.heap.size]? = w0.heap[w.heap.size]? := hV.block _ (by omega) (fun hx => by
    rcases hx with y | y | y | y
    · have := sp.lt _ (.inr (.inl y)); omega
    · have := sp.lt _ (.inr (.inr (.inl y))); omega
    · have := (sp.m _ y).2; omega
    · have := (sp.r _ y).2; omega)
  have hX := (h.below hMo hb).hx.same eX
  have hB' := hB.same eB
  exact ⟨⟨⟨hX.c 0 (by omega), hX.c 1 (by omega)⟩, hX.c 2 (by omega), hX.c 3 (by omega)⟩, ⟨hB'.c 0 (by omega), hB'.c 1 (by omega)⟩, hB'.c 2 (by omega), hB'.c 3 (by omega), hB'.c 4 (by omega)⟩
theorem Tv.copied {w w1 w3 : World} {X : Nat} {p : Pl} {t t' : Tb} {mv mr : Value} {M : Int → Int → World → Prop} {a b a' b' : Int} (hT : Tv w X p t mv mr M a b) (hMo : MtOk mv M) {g' gi' r' h' : Nat} {ev' : Value} {g2' q2' : Nat} {ev2' : Value}
    (hd : Dt w1 g' gi' r' h' ev' t' mv) (fd : ∀ k, dX g' gi' r' h' ev' k → w.heap.size ≤ k) (hm : M a' b' w1) (x1 : Ex (mB mv) w w1)
    (hr : RtS w3 g2' ev2' q2' t' mr) (fr : ∀ k, (k = g2' ∨ k = q2' ∨ ev2'.ownBlock = some k) → (w1.setCell ⟨X, 0, none⟩ (.pointer (some ⟨g', 0, none⟩))).heap.size ≤ k) (hms : Ms w3 mr a' b' 0 0) (x2 : Ex (mB mr) (w1.setCell ⟨X, 0, none⟩ (.pointer (some ⟨g', 0, none⟩))) w3) (ok : t'.Ok) :
    Tw ((w3.setCell ⟨X, 1, none⟩ (.pointer (some ⟨g2', 0, none⟩))).setCell ⟨X, 2, none⟩ (.pointer none)) X ⟨g', gi', r', h', ev', g2', q2', ev2', .pointer none, p.kp⟩ t' mv mr M a' b' ∧
    (∀ k, Pl.all ⟨g', gi', r', h', ev', g2', q2', ev2', .pointer none, p.kp⟩ X k → p.all X k ∨ w.heap.size ≤ k) ∧
    Ex (fun k => p.all X k ∨ mB mv k ∨ mB mr k) w ((w3.setCell ⟨X, 1, none⟩ (.pointer (some ⟨g2', 0, none⟩))).setCell ⟨X, 2, none⟩ (.pointer none)) := by
  obtain ⟨lab, sp⟩ := hT.sep
  have s1 := x1.size
  have s2 := x2.size
  have ss : (w1.setCell ⟨X, 0, none⟩ (.pointer (some ⟨g', 0, none⟩))).heap.size = w1.heap.size := by simp [World.setCell]
  rw [ss] at s2 fr
  have sX := sp.lt X (.inl rfl)
  have lX := sp.x
  have n5 : ∀ k, k ≠ X → ((w3.setCell ⟨X, 1, none⟩ (.pointer (some ⟨g2', 0, none⟩))).setCell ⟨X, 2, none⟩ (.pointer none)).heap[k]? = w3.heap[k]? := fun k hk => by rw [Below.heap_setCell _ _ _ _ hk, Below.heap_setCell _ _ _ _ hk]
  have n2 : ∀ k, k ≠ X → (w1.setCell ⟨X, 0, none⟩ (.pointer (some ⟨g', 0, none⟩))).heap[k]? = w1.heap[k]? := fun k hk => Below.heap_setCell _ _ _ _ hk
  have n3 : ∀ k, k < w1.heap.size → k ≠ X → ¬ mB mr k → w3.heap[k]? = w1.heap[k]? := fun k hk h1 h2 => (x2.block k (by rw [ss]; exact hk) h2).trans (n2 k h1)
  have hX1 : Blk w1 X 4 (xF p) := hT.hx.same (x1.block X sX (fun h => by have := (sp.m X h).1; omega))
  have hX2 := hX1.put 0 (.pointer (some ⟨g', 0, none⟩))
  have hX3 := hX2.same (x2.block X (by rw [ss]; omega) (fun h => by have := (sp.r X h).1; omega))
  have hX5 := (hX3.put 1 (.pointer (some ⟨g2', 0, none⟩))).put 2 (.pointer none)
  have hdl := hd.lt
  refine ⟨⟨?_, ?_, ?_, ok, ?_, ?_, .inl rfl, ?_⟩, ?_, ?_⟩
  · refine hX5.congr fun j hj => ?_
    have : j = 0 ∨ j = 1 ∨ j = 2 ∨ j = 3 := by omega
    rcases this with rfl | rfl | rfl | rfl <;> rfl
  · refine hd.same fun k hk => ?_
    have h1 := fd k hk
    have h2 := hdl k hk
    rw [n5 k (by omega)]
    exact n3 k h2 (by omega) (fun h => by have := (sp.r k h).2; omega)
  · refine hr.same fun k hk => n5 k ?_
    have := fr k hk
    omega
  · refine hMo.same _ _ _ _ hm fun k hk => ?_
    have h1 := sp.m k hk
    have h2 : k ≠ X := fun e => by rw [e] at h1; omega
    rw [n5 k h2]
    exact n3 k (by omega) h2 (fun h => by have := (sp.r k h).1; omega)
  · refine hms.same fun k hk => n5 k ?_
    have h1 := sp.r k hk
    exact fun e => by rw [e] at h1; omega
  · refine ⟨fun k => if k < w.heap.size then lab k else if k < w1.heap.size then 1 else 2, ?_, ?_, ?_, ?_, ?_, ?_, ?_, ?_⟩
    · have hz : ((w3.setCell ⟨X, 1, none⟩ (.pointer (some ⟨g2', 0, none⟩))).setCell ⟨X, 2, none⟩ (.pointer none)).heap.size = w3.heap.size := by simp [World.setCell]
      rw [hz]
      rintro k (rfl | y | y | y | y)
      · omega
      · have := hdl k y; omega
      · exact hr.lt k y
      · cases y
      · have := sp.lt k (.inr (.inr (.inr (.inr y)))); omega
    · show (if X < w.heap.size then lab X else _) = 0
      rw [if_pos sX]
      exact lX
    · intro k y
      show (if k < w.heap.size then lab k else _) = 1
      have h1 := fd k y
      rw [if_neg (by omega), if_pos (hdl k y)]
    · intro k y
      show (if k < w.heap.size then lab k else _) = 2
      have h1 := fr k y
      rw [if_neg (by omega), if_neg (by omega)]
    · intro k y
      cases y
    · intro k y
      show (if k < w.heap.size then lab k else _) = 4
      rw [if_pos (sp.lt k (.inr (.inr (.inr (.inr y)))))]
      exact sp.k k y
    · intro k y
      show (if k < w.heap.size then lab k else _) = 5 ∧ _
      have := sp.m k y
      rw [if_pos this.2]
      refine ⟨this.1, ?_⟩
      simp [World.setCell]
      omega
    · intro k y
      show (if k < w.heap.size then lab k else _) = 6 ∧ _
      have := sp.r k y
      rw [if_pos this.2]
      refine ⟨this.1, ?_⟩
      simp [World.setCell]
      omega
  · rintro k (rfl | y | y | y | y)
    · exact .inl (.inl rfl)
    · exact .inr (fd k y)
    · have := fr k y
      exact .inr (by omega)
    · cases y
    · exact .inl (.inr (.inr (.inr (.inr y))))
  · have y1 : Ex (fun k => p.all X k ∨ mB mv k ∨ mB mr k) w (w1.setCell ⟨X, 0, none⟩ (.pointer (some ⟨g', 0, none⟩))) := (x1.mono (fun k _ hk => .inr (.inl hk))).setCell (p := ⟨X, 0, none⟩) (fun _ => .inl (.inl rfl)) _
    exact ((y1.next x2 (fun k _ hk => .inr (.inr hk))).setCell (p := ⟨X, 1, none⟩) (fun _ => .inl (.inl rfl)) _).setCell (p := ⟨X, 2, none⟩) (fun _ => .inl (.inl rfl)) _
theorem Az.ad {w w' : World} {p : Pl} {t' : Tb} {gi r h : Nat} {ev : Value} (x : Az w p.g t' w' gi r h ev) (a b : Int) : Ad w p.g p.gi p.r p.h p.ev (.pointer none) noM a b t' w' gi r h ev :=
  ⟨x.dt, trivial, fun j hj => (x.fx j hj).elim (fun e => .inl (.inl e)) .inr, x.ex.mono (fun _ _ hk => .inl (.inl hk))⟩
theorem add_zq {w : World} {p : Pl} {t : Tb} (hZ : Zt w p.g) (_hp : Zp p) (htn : t = Tb.new) (a b : Int) (u k v : Int) :
    Calls Tryz.prog 7 #[.pointer (some ⟨p.g, 0, none⟩), .int .i64 u, .int .i64 k, .int .i64 v] w fun e w' => e = .returned (.tuple #[.int .i64 (((t.add u k v).es.length - 1 : Nat) : Int), .int .i64 0]) ∧ ∃ gi' r' h' ev', Ad w p.g p.gi p.r p.h p.ev (.pointer none) noM (a + ((t.add u k v).made - t.made : Nat)) b (t.add u k v) w' gi' r' h' ev' := by
  subst htn
  exact (add_z hZ u k v).mono fun _ _ ⟨h1, gi, r, h, ev, hA⟩ => ⟨h1, gi, r, h, ev, hA.ad _ _⟩
theorem clear_zq {w : World} {p : Pl} {t : Tb} (hZ : Zt w p.g) (_hp : Zp p) (htn : t = Tb.new) (a b : Int) :
    Calls Tryz.prog 30 #[.pointer (some ⟨p.g, 0, none⟩)] w fun e w' => e = .returned (.tuple #[]) ∧ ∃ gi' r' h' ev', Ad w p.g p.gi p.r p.h p.ev (.pointer none) noM (a + 1) b t.clear w' gi' r' h' ev' := by
  subst htn
  exact (clear_z hZ).mono fun _ _ ⟨h1, gi, r, h, ev, hA⟩ => ⟨h1, gi, r, h, ev, hA.ad _ _⟩
/-- A zero table made ready. -/
theorem Tv.ready {w wz : World} {X : Nat} {p : Pl} {t : Tb} {a b : Int} {gi r h : Nat} (hT : Tv w X p t (.pointer none) (.pointer none) noM a b) (htn : t = Tb.new) (hA : Az w p.g Tb.new wz gi r h (.slice none 0 0)) :
    Tw wz X { p with gi := gi, r := r, h := h, ev := .slice none 0 0 } t (.pointer none) (.pointer none) noM a b ∧ (∀ k, Pl.all { p with gi := gi, r := r, h := h, ev := .slice none 0 0 } X k → p.all X k ∨ w.heap.size ≤ k) ∧ Ex (fun k => p.all X k ∨ mB (.pointer none) k ∨ mB (.pointer none) k) w wz := by
  have x1 : Ex (fun j => p.d j ∨ mB (.pointer none) j) w wz := hA.ex.mono (fun k _ hk => .inl (.inl hk))
  obtain ⟨h1, h2, _⟩ := hT.mid x1
  exact Tv.both (q2' := p.q2) (ev2' := p.ev2) hT mtOk_nil (by rw [htn]; exact hA.dt) (fun j hj => (hA.fx j hj).elim (fun e => .inl (.inl e)) .inr) trivial x1 h1 (fun j hj => .inl hj) h2 (Ex.refl _ _) hT.ok (Turned.refl t)
end Go.Proofs.YtdjabdmnknlaeaaGreat
namespace Go.Proofs.YtdjabdmnknlaeaaGreat
open Go.RowKit Go.WideShapes
attribute [local go_sem] Oper.semAt_some

theorem Az.next {w W W' : World} {g gi r h : Nat} {t : Tb} {ev : Value} {Y : Nat → Prop} (x : Az w g t W gi r h ev) (y : Ex Y W W') (hy : ∀ k, Y k → w.heap.size ≤ k ∧ ¬ dX g gi r h ev k) : Az w g t W' gi r h ev :=
  ⟨x.dt.same (fun k hk => y.block k (x.dt.lt k hk) (fun z => (hy k z).2 hk)), x.fx, x.ex.next y (fun k hk z => by have := (hy k z).1; omega)⟩
theorem ex_put7 (V : World) (b : Nat) (x0 x1 x2 x3 x4 x5 x6 : Value) : Ex (fun k => k = b) V (put7 V b x0 x1 x2 x3 x4 x5 x6) := by
  unfold put7
  exact ((((((((Ex.refl (fun k => k = b) V).setCell (p := ⟨b, 0, none⟩) (fun _ => rfl) _).setCell (p := ⟨b, 1, none⟩) (fun _ => rfl) _).setCell (p := ⟨b, 2, none⟩) (fun _ => rfl) _).setCell (p := ⟨b, 3, none⟩) (fun _ => rfl) _).setCell (p := ⟨b, 4, none⟩) (fun _ => rfl) _).setCell (p := ⟨b, 5, none⟩) (fun _ => rfl) _).setCell (p := ⟨b, 6, none⟩) (fun _ => rfl) _)
theorem ex_putObj (V : World) (b : Nat) (o : Obj) : Ex (fun k => k = b) V (V.putObj b o) := by
  have h : Below b V (V.putObj b o) := below_put (Nat.le_refl _)
  exact ⟨h.os, h.tape, h.output, h.size, fun k _ hk => World.putObj_heap_other hk⟩
set_option maxRecDepth 100000 in
set_option maxHeartbeats 8000000 in
theorem sight_z {w : World} {g : Nat} (hZ : Zt w g) :
    Calls Tryz.prog 8 #[.pointer (some ⟨g, 0, none⟩)] w fun e w' => ∃ hc ev', e = .returned (sgV Tb.new hc ev') ∧ SgV w.heap.size w' Tb.new hc ev' ∧ ∃ gi r h, Az w g Tb.new w' gi r h (.slice none 0 0) := by
  obtain ⟨i0, hi, hz0, hz1, hz2⟩ := info_parts Tryz.infoI
  obtain ⟨t, htn⟩ : ∃ t : Tb, t = Tb.new := ⟨_, rfl⟩
  obtain ⟨ev, hev0⟩ : ∃ ev : Value, ev = .slice none 0 0 := ⟨_, rfl⟩
  have hlen : t.es.length ≤ 100000 := by rw [htn]; decide
  have hlg := hZ.lt (by omega)
  obtain ⟨w1, hw1⟩ : ∃ x, w.alloc (.cells #[.int .i64 0, .int .i64 0, .slice none 0 0, .slice none 0 0, .int .i64 0, .int .i64 0, .int .i64 0] 36) = x := ⟨_, rfl⟩
  have hB1 : Below w.heap.size w w1 := by rw [← hw1]; exact (Below.refl _ w).alloc (Nat.le_refl _) _
  have hR1 : Blk w1 w.heap.size 7 zS := by
    rw [← hw1]
    refine (Blk.new w _ _).congr fun j hj => ?_
    have : j = 0 ∨ j = 1 ∨ j = 2 ∨ j = 3 ∨ j = 4 ∨ j = 5 ∨ j = 6 := by simp at hj; omega
    rcases this with rfl | rfl | rfl | rfl | rfl | rfl | rfl <;> rfl
  have hs1 : w1.heap.size = w.heap.size + 1 := by rw [← hw1]; simp
  have CR := ready_z (hZ.same (hB1.block g hlg) : Zt w1 g)
  rw [← htn, ← hev0] at CR
  rw [← htn, ← hev0]
  have HW1 := Lib.hid hw1
  have HB1 := Lib.hid hB1
  have HR1 := Lib.hid hR1
  clear hZ htn hev0 hw1 hB1 hR1
  refine callsIn_wide.1 (callsIn_of_wp_marks (n := 0) Tryz.func8 rfl trivial ?_ rfl)
  simp only [Tryz.ntmps8, List.size_toArray, List.length_cons, List.length_nil, Nat.reduceAdd, Nat.reduceSub, Array.replicate_succ, Array.replicate_zero, List.push_toArray, List.append_toArray, List.nil_append, List.cons_append]
  gi_wp2_with fail
  rw [HW1.out]
  refine ⟨trivial, rfl, (callsIn_wide.2 CR).mono ?_⟩
  rintro e wz ⟨rfl, gi, r, h, hAz1⟩
  clear CR
  have hAz : Az w g t wz gi r h ev := ⟨hAz1.dt, fun j hj => (hAz1.fx j hj).imp id (fun x => by omega), (ex_of HB1.out).next hAz1.ex (fun _ _ x => x)⟩
  have hwz := hAz1.ex.size
  have hRz : Blk wz w.heap.size 7 zS := HR1.out.same (hAz1.ex.block _ (by omega) (by omega))
  have HNX : Hid (¬ dX g gi r h ev w.heap.size) := fun hd => (hAz1.fx _ hd).elim (fun x => by omega) (fun x => by omega)
  have hD : Dt wz g gi r h ev t (.pointer none) := hAz.dt
  have HDL := Lib.hid hD.lt
  have HAZ := Lib.hid hAz
  have hSz := hD.cl.sz
  have hm := hSz.most
  have hpos := hSz.pos
  have k1 : wz.cell? ⟨g, 1, none⟩ = some (.pointer (some ⟨gi, 0, none⟩)) := hD.hd.c 1 (by omega)
  clear hAz hAz1 HW1 HB1 HR1
  have CS := sizeM_any hD.cl
  obtain ⟨S, hSS⟩ : ∃ S, 2 ^ t.L = S := ⟨_, rfl⟩
  rw [hSS] at CS hm hpos
  obtain ⟨w3, hmk, hown3, hgrow3⟩ := run_makeSlice_full (P := Tryz.prog) wz wz.heap.size 33 3 i0 (.int .i64 0) 1 Tryz.underlying33 hi hz0 hz1 .i64 .i64 S (by omega) (by rw [hz2]; omega) (by unfold maxLen; omega) (by omega)
  have hB3 : Below wz.heap.size wz w3 := (Below.refl _ wz).grown hgrow3 (Nat.le_refl _) (fun k e => by cases e)
  have hRow3 : Row1 w3 wz.heap.size S (fun _ => 0) := row1_made hown3
  have hs3 := hB3.size
  have hl3 := hRow3.lt
  obtain ⟨w4, hw4⟩ : ∃ x, w3.alloc (.cells #[.slice (some ⟨wz.heap.size, 0, none⟩) S S] 33) = x := ⟨_, rfl⟩
  have hB34 : Below w3.heap.size w3 w4 := by rw [← hw4]; exact (Below.refl _ w3).alloc (Nat.le_refl _) _
  have hs4 : w4.heap.size = w3.heap.size + 1 := by rw [← hw4]; simp
  have hb4 : w4.cell? ⟨w3.heap.size, 0, none⟩ = some (.slice (some ⟨wz.heap.size, 0, none⟩) S S) := by rw [← hw4]; exact cell_alloc_new _ _ _ _ rfl
  have hB4 : Below wz.heap.size wz w4 := hB3.trans (hB34.mono hs3)
  have hR4 : Blk w4 w.heap.size 7 zS := hRz.same (((hB34.block _ (by omega)).trans (hB3.block _ (by omega))))
  have hRow4 : Row1 w4 (wz.heap.size) S (fun _ => 0) := hRow3.same (hB34.block _ hl3)
  have hD4 := hD.below hB4
  have k4 : w4.cell? ⟨g, 1, none⟩ = some (.pointer (some ⟨gi, 0, none⟩)) := hD4.hd.c 1 (by omega)
  have k4r : (w3.alloc (.cells #[.slice (some ⟨wz.heap.size, 0, none⟩) S S] 33)).cell? ⟨g, 1, none⟩ = some (.pointer (some ⟨gi, 0, none⟩)) := by rw [hw4]; exact k4
  have CA := allM_any hD4.cl
  rw [hSS] at CA
  have HD := Lib.hid hD
  have HW4 := Lib.hid hw4
  have HSS := Lib.hid hSS
  have HB4 := Lib.hid hB4
  have HR4 := Lib.hid hR4
  have HRow4 := Lib.hid hRow4
  clear hD hw4 hD4 hR4 hRow4 hRow3 hown3 hgrow3 hB4 hSS hRz
  gi_wp2_with fail
  refine ⟨trivial, rfl, (callsIn_wide.2 CS).mono ?_⟩
  rintro e w2 ⟨rfl, hw2⟩
  rw [hw2]
  clear hw2
  clear CS
  gi_wp2_with fail
  rw [HW4.out]
  refine ⟨trivial, rfl, (callsIn_wide.2 CA).mono ?_⟩
  rintro e w5 ⟨r', h', cap', rfl, hr', hh', hRw5, hB5⟩
  clear CA
  unfold itv
  have hs5 := hB5.size
  obtain ⟨hlr5, hlh5⟩ := hRw5.lt (by omega)
  have hints : ∀ i, i < S → -2147483648 ≤ t.c i ∧ t.c i < 2147483648 := fun i hi => HD.out.cl.ints i (by rw [HSS.out]; exact hi)
  have HSQ := Lib.hid (row_seq hRw5 hm hints hlr5)
  have HRC := Lib.hid hRw5.hc
  have hI0 : Below wz.heap.size wz w5 ∧ w5.cell? ⟨w3.heap.size, 0, none⟩ = some (.slice (some ⟨wz.heap.size, 0, none⟩) S S) ∧ Row1 w5 (wz.heap.size) S (mix 0 t.c (fun _ => 0)) ∧ Blk w5 w.heap.size 7 zS ∧ ∀ j, j < S → w5.cell? ⟨h', j, none⟩ = some (.int (kd t.L) (t.c j)) :=
    ⟨HB4.out.trans (hB5.mono (by omega)), (hB5.cell (p := ⟨w3.heap.size, 0, none⟩) (by show w3.heap.size < _; omega)).trans hb4, (HRow4.out.same (hB5.block _ (by omega))).congr (fun j _ => by simp [mix]), HR4.out.same (hB5.block _ (by omega)), HRC.out⟩
  have HI0 := Lib.hid hI0
  clear hI0 hints hRw5 k4 k4r hmk k1
  gi_wp2_with fail
  refine wpIn_range_at (gf := eachF t.L) (args := fun l => #[.pointer (some ⟨r', 0, none⟩), .func (.yield l) #[] #[]]) (fun l => ⟨.fn (.method "lexicon/cells.each") #[], #[.iface (rty t.L) (.pointer (some ⟨r', 0, none⟩)), .func (.yield l) #[] #[]]⟩)
    (fun l W => by simp [resolve, Deferred.ofValue, go_sem, Act.eval]) (fun l W => each_dl t.L r' l W) HSQ.out (fun _ => rfl)
    (fun k W => Below wz.heap.size wz W ∧ W.cell? ⟨w3.heap.size, 0, none⟩ = some (.slice (some ⟨wz.heap.size, 0, none⟩) S S) ∧ Row1 W (wz.heap.size) S (mix k t.c (fun _ => 0)) ∧ Blk W w.heap.size 7 zS ∧ ∀ j, j < S → W.cell? ⟨h', j, none⟩ = some (.int (kd t.L) (t.c j)))
    (fun _ _ _ => False) ?hI (fun _ _ _ _ h _ => h) (fun k W h => h.2.2.2.2) HI0.out
    (fun k => { tmps := #[.pointer (some ⟨g, 0, none⟩), undef, .pointer (some ⟨w.heap.size, 0, none⟩), .pointer (some ⟨w3.heap.size, 0, none⟩), .int .i64 (k : Int), .int .i64 (t.c k), .pointer (some ⟨g, 0, none⟩), .bool false, undef, .pointer (some ⟨g, 0, none⟩), .tuple #[], .pointer (some ⟨g, 0, none⟩), .pointer (some ⟨g, 0, none⟩), .pointer (some ⟨g, 1, none⟩), .pointer (some ⟨gi, 0, none⟩), .int .i64 (S : Int), .slice (some ⟨wz.heap.size, 0, none⟩) S S, .pointer (some ⟨g, 0, none⟩), .pointer (some ⟨g, 0, none⟩), .pointer (some ⟨g, 1, none⟩), .pointer (some ⟨gi, 0, none⟩), .func (.method "lexicon/cells.each") #[.iface (rty t.L) (.pointer (some ⟨r', 0, none⟩))] #[], .int .i64 (k : Int), .int .i64 (t.c k), undef, undef, undef, undef, undef, undef, undef, undef, undef, undef, undef, undef, undef, undef, undef, undef, undef, undef, undef, undef, undef, undef, undef, undef, undef, undef, undef, undef, undef, undef], defers := [] }) ?assign ?body ?done (fun _ _ _ _ h _ => h.elim)
  case hI =>
    rintro k A A' ⟨x1, x2, x3, x4, x5⟩ hb
    exact ⟨x1.trans (hb.mono (by omega)), (hb.cell (p := ⟨w3.heap.size, 0, none⟩) (by show w3.heap.size < _; omega)).trans x2, x3.same (hb.block _ (by omega)), x4.same (hb.block _ (by omega)), fun j hj => (hb.cell (p := ⟨h', j, none⟩) hlh5).trans (x5 j hj)⟩
  case assign =>
    intro l k W K hK
    gi_wp2
    exact hK
  case body =>
    rintro l k W hk ⟨x1, x2, x3, x4, x5⟩
    have c1 := x3.cell k hk
    have z1 := x3.free k
    have t1 : (k : Int) < (S : Int) := by omega
    have HX : Hid (Since w5.heap.size W (W.setCell ⟨wz.heap.size, k, none⟩ (.int .i64 (t.c k))) ∧ Below wz.heap.size wz (W.setCell ⟨wz.heap.size, k, none⟩ (.int .i64 (t.c k))) ∧ (W.setCell ⟨wz.heap.size, k, none⟩ (.int .i64 (t.c k))).cell? ⟨w3.heap.size, 0, none⟩ = some (.slice (some ⟨wz.heap.size, 0, none⟩) S S) ∧ Row1 (W.setCell ⟨wz.heap.size, k, none⟩ (.int .i64 (t.c k))) (wz.heap.size) S (mix (k + 1) t.c (fun _ => 0)) ∧ Blk (W.setCell ⟨wz.heap.size, k, none⟩ (.int .i64 (t.c k))) w.heap.size 7 zS ∧ ∀ j, j < S → (W.setCell ⟨wz.heap.size, k, none⟩ (.int .i64 (t.c k))).cell? ⟨h', j, none⟩ = some (.int (kd t.L) (t.c j))) := by
      refine ⟨(Since.refl _ _).setCell (p := ⟨wz.heap.size, k, none⟩) (by show wz.heap.size < _; omega) _, x1.setCell (p := ⟨wz.heap.size, k, none⟩) (Nat.le_refl _) _, ?_, ?_, x4.same (Below.heap_setCell _ _ _ _ (by show w.heap.size ≠ wz.heap.size; omega)), fun j hj => ?_⟩
      · rw [World.cell?_setCell_other _ _ _ _ (by intro he; injection he with h1 h2; omega)]
        exact x2
      · rw [← mix_upd]
        exact x3.put k (t.c k)
      · rw [World.cell?_setCell_other _ _ _ _ (by intro he; injection he with h1 h2; omega)]
        exact x5 j hj
    clear x1 x3 x4 x5
    generalize t.c k = v at *
    gi_wp2
    exact HX.out
  case done =>
    rintro W ⟨x1, x2, x3, x4, _⟩ hK
    have hDW := HD.out.below x1
    have hRow : Row1 W (wz.heap.size) S t.c := x3.congr fun j hj => by simp [mix, hj]
    have y0 : W.cell? ⟨g, 1, none⟩ = some (.pointer (some ⟨gi, 0, none⟩)) := hDW.hd.c 1 (by omega)
    have y3 : W.cell? ⟨g, 3, none⟩ = some (.int .i64 (t.live : Int)) := hDW.hd.c 3 (by omega)
    have y4 : W.cell? ⟨g, 4, none⟩ = some (.int .i64 (t.births : Int)) := hDW.hd.c 4 (by omega)
    have y5 : W.cell? ⟨g, 5, none⟩ = some (.int .i64 (t.made : Int)) := hDW.hd.c 5 (by omega)
    have CLg : Hid (∀ V, Below W.heap.size W V → Calls Tryz.prog 19 #[.pointer (some ⟨gi, 0, none⟩)] V fun e w' => e = .returned (.int .i64 (t.L : Int)) ∧ w' = V) := fun V hV => log_any (hDW.cl.below hV)
    have CWd : Hid (∀ V, Below W.heap.size W V → Calls Tryz.prog 20 #[.pointer (some ⟨gi, 0, none⟩)] V fun e w' => e = .returned (.int .i64 (wd t.L : Int)) ∧ w' = V) := fun V hV => widthM_any (hDW.cl.below hV)
    have CCp := shown_any (w := W.drew) (g := g) (hDW.hd.c 2 (by omega)) (hDW.es.same fun _ _ => rfl) hlen
    have hsW := x1.size
    have hsW5 : w5.heap.size < W.heap.size := (Array.getElem?_eq_some_iff.1 hK).1
    have hB0 : Below W.heap.size W W.drew := (Below.refl _ W).drew
    have lgW : g < W.heap.size := by omega
    have HX1 := Lib.hid x1
    have HX4 := Lib.hid x4
    have HROW := Lib.hid hRow
    clear x3 x4 hDW hRow
    have d0 : W.drew.cell? ⟨g, 1, none⟩ = some (.pointer (some ⟨gi, 0, none⟩)) := y0
    have d3 : W.drew.cell? ⟨g, 3, none⟩ = some (.int .i64 (t.live : Int)) := y3
    have d4 : W.drew.cell? ⟨g, 4, none⟩ = some (.int .i64 (t.births : Int)) := y4
    have d5 : W.drew.cell? ⟨g, 5, none⟩ = some (.int .i64 (t.made : Int)) := y5
    have d2 : W.drew.cell? ⟨w3.heap.size, 0, none⟩ = some (.slice (some ⟨wz.heap.size, 0, none⟩) S S) := x2
    generalize hWd : wd t.L = Wd at *
    have HWD := Lib.hid hWd
    clear hWd
    gi_wp2_with fail
    refine (wpIn_wide (n := 0)).2 ?_
    go_region_held3 (fun V => V.cell? ⟨g, 1, none⟩ = some (.pointer (some ⟨gi, 0, none⟩)) ∧ V.cell? ⟨g, 3, none⟩ = some (.int .i64 (t.live : Int)) ∧ V.cell? ⟨g, 4, none⟩ = some (.int .i64 (t.births : Int)) ∧ V.cell? ⟨g, 5, none⟩ = some (.int .i64 (t.made : Int)) ∧ V.cell? ⟨w3.heap.size, 0, none⟩ = some (.slice (some ⟨wz.heap.size, 0, none⟩) S S))
      (first | with_reducible exact ⟨d0, d3, d4, d5, d2⟩ | with_reducible exact ⟨y0, y3, y4, y5, x2⟩ | with_reducible exact ⟨q0, q3, q4, q5, q2⟩ | with_reducible exact HP.out _ _ _ _ _ _ _ | fail)
      (first | (go_at_call 19; refine (CLg.out _ (by first | exact hB0 | exact hBV)).mono ?_; rintro e v2 ⟨rfl, rfl⟩) | (go_at_call 20; refine (CWd.out _ (by first | exact hB0 | exact hBV)).mono ?_; rintro e v2 ⟨rfl, rfl⟩) | (go_at_call 21; refine CCp.mono ?_; rintro e V ⟨cv, rfl, hEs, hBV0⟩; obtain ⟨ca, cc, hcv⟩ := ownsRow_shape hEs; rw [shw_len] at hcv; subst hcv; have hBV := hB0.trans hBV0; have HEs := Lib.hid hEs; clear hEs; have hBl := HX4.out.same (hBV.block _ (by omega)); have a0 := hBl.c 0 (by omega); have a1 := hBl.c 1 (by omega); have a2 := hBl.c 2 (by omega); have a3 := hBl.c 3 (by omega); have a4 := hBl.c 4 (by omega); have a5 := hBl.c 5 (by omega); have a6 := hBl.c 6 (by omega); have z0 := hBl.z 0; have z1 := hBl.z 1; have z2 := hBl.z 2; have z3 := hBl.z 3; have z4 := hBl.z 4; have z5 := hBl.z 5; have z6 := hBl.z 6; have HBl := Lib.hid hBl; clear hBl; have q0 := (hBV.cell (p := ⟨g, 1, none⟩) lgW).trans y0; have q3 := (hBV.cell (p := ⟨g, 3, none⟩) lgW).trans y3; have q4 := (hBV.cell (p := ⟨g, 4, none⟩) lgW).trans y4; have q5 := (hBV.cell (p := ⟨g, 5, none⟩) lgW).trans y5; have q2 := (hBV.cell (p := ⟨w3.heap.size, 0, none⟩) (by show w3.heap.size < _; omega)).trans x2; have HP : Hid (∀ v0 v1 v2 v3 v4 v5 v6, (((((((V.setCell ⟨w.heap.size, 0, none⟩ v0).setCell ⟨w.heap.size, 1, none⟩ v1).setCell ⟨w.heap.size, 2, none⟩ v2).setCell ⟨w.heap.size, 3, none⟩ v3).setCell ⟨w.heap.size, 4, none⟩ v4).setCell ⟨w.heap.size, 5, none⟩ v5).setCell ⟨w.heap.size, 6, none⟩ v6).cell? ⟨g, 1, none⟩ = some (.pointer (some ⟨gi, 0, none⟩)) ∧ (((((((V.setCell ⟨w.heap.size, 0, none⟩ v0).setCell ⟨w.heap.size, 1, none⟩ v1).setCell ⟨w.heap.size, 2, none⟩ v2).setCell ⟨w.heap.size, 3, none⟩ v3).setCell ⟨w.heap.size, 4, none⟩ v4).setCell ⟨w.heap.size, 5, none⟩ v5).setCell ⟨w.heap.size, 6, none⟩ v6).cell? ⟨g, 3, none⟩ = some (.int .i64 (t.live : Int)) ∧ (((((((V.setCell ⟨w.heap.size, 0, none⟩ v0).setCell ⟨w.heap.size, 1, none⟩ v1).setCell ⟨w.heap.size, 2, none⟩ v2).setCell ⟨w.heap.size, 3, none⟩ v3).setCell ⟨w.heap.size, 4, none⟩ v4).setCell ⟨w.heap.size, 5, none⟩ v5).setCell ⟨w.heap.size, 6, none⟩ v6).cell? ⟨g, 4, none⟩ = some (.int .i64 (t.births : Int)) ∧ (((((((V.setCell ⟨w.heap.size, 0, none⟩ v0).setCell ⟨w.heap.size, 1, none⟩ v1).setCell ⟨w.heap.size, 2, none⟩ v2).setCell ⟨w.heap.size, 3, none⟩ v3).setCell ⟨w.heap.size, 4, none⟩ v4).setCell ⟨w.heap.size, 5, none⟩ v5).setCell ⟨w.heap.size, 6, none⟩ v6).cell? ⟨g, 5, none⟩ = some (.int .i64 (t.made : Int)) ∧ (((((((V.setCell ⟨w.heap.size, 0, none⟩ v0).setCell ⟨w.heap.size, 1, none⟩ v1).setCell ⟨w.heap.size, 2, none⟩ v2).setCell ⟨w.heap.size, 3, none⟩ v3).setCell ⟨w.heap.size, 4, none⟩ v4).setCell ⟨w.heap.size, 5, none⟩ v5).setCell ⟨w.heap.size, 6, none⟩ v6).cell? ⟨w3.heap.size, 0, none⟩ = some (.slice (some ⟨wz.heap.size, 0, none⟩) S S)) := (fun v0 v1 v2 v3 v4 v5 v6 => ⟨(World.cell?_of_block (a := ⟨g, 1, none⟩) (put7_other V w.heap.size v0 v1 v2 v3 v4 v5 v6 g (by omega))).trans q0, (World.cell?_of_block (a := ⟨g, 3, none⟩) (put7_other V w.heap.size v0 v1 v2 v3 v4 v5 v6 g (by omega))).trans q3, (World.cell?_of_block (a := ⟨g, 4, none⟩) (put7_other V w.heap.size v0 v1 v2 v3 v4 v5 v6 g (by omega))).trans q4, (World.cell?_of_block (a := ⟨g, 5, none⟩) (put7_other V w.heap.size v0 v1 v2 v3 v4 v5 v6 g (by omega))).trans q5, (World.cell?_of_block (a := ⟨w3.heap.size, 0, none⟩) (put7_other V w.heap.size v0 v1 v2 v3 v4 v5 v6 w3.heap.size (by omega))).trans q2⟩)) | fail)
    have hge : ∀ k, (Value.slice ca t.es.length cc).ownBlock = some k → W.heap.size ≤ k := HEs.out.ge
    have hVs := hBV.size
    have HA9 := Lib.hid (put7_blk HBl.out (.int .i64 (t.L : Int)) (.int .i64 (Wd : Int)) (.slice (some ⟨wz.heap.size, 0, none⟩) S S) (.slice ca t.es.length cc) (.int .i64 (t.live : Int)) (.int .i64 (t.births : Int)) (.int .i64 (t.made : Int)))
    have HB9 : Hid (Az w g t (put7 V w.heap.size (.int .i64 (t.L : Int)) (.int .i64 (Wd : Int)) (.slice (some ⟨wz.heap.size, 0, none⟩) S S) (.slice ca t.es.length cc) (.int .i64 (t.live : Int)) (.int .i64 (t.births : Int)) (.int .i64 (t.made : Int))) gi r h ev) := (HAZ.out.below (HX1.out.trans (hBV.mono hsW))).next (ex_put7 _ _ _ _ _ _ _ _ _) (fun k hk => by subst hk; exact ⟨Nat.le_refl _, HNX.out⟩)
    have HR9 : Hid (Row1 (put7 V w.heap.size (.int .i64 (t.L : Int)) (.int .i64 (Wd : Int)) (.slice (some ⟨wz.heap.size, 0, none⟩) S S) (.slice ca t.es.length cc) (.int .i64 (t.live : Int)) (.int .i64 (t.births : Int)) (.int .i64 (t.made : Int))) (wz.heap.size) S t.c) := HROW.out.same ((put7_other _ _ _ _ _ _ _ _ _ _ (by omega)).trans (hBV.block _ (by omega)))
    have HE9 : Hid (EsB W.heap.size (put7 V w.heap.size (.int .i64 (t.L : Int)) (.int .i64 (Wd : Int)) (.slice (some ⟨wz.heap.size, 0, none⟩) S S) (.slice ca t.es.length cc) (.int .i64 (t.live : Int)) (.int .i64 (t.births : Int)) (.int .i64 (t.made : Int))) (.slice ca t.es.length cc) (shw t.es)) := by
      refine ⟨HEs.out.1, ?_⟩
      rcases HEs.out.2 with h0 | ⟨g9, cap9, cur9, e9, h1, h2, h3⟩
      · exact .inl h0
      · exact .inr ⟨g9, cap9, cur9, e9, h1, (put7_other _ _ _ _ _ _ _ _ _ _ (by have : W.heap.size ≤ g9 := h1; omega)).trans h2, h3⟩
    have HD9 : Hid ((put7 V w.heap.size (.int .i64 (t.L : Int)) (.int .i64 (Wd : Int)) (.slice (some ⟨wz.heap.size, 0, none⟩) S S) (.slice ca t.es.length cc) (.int .i64 (t.live : Int)) (.int .i64 (t.births : Int)) (.int .i64 (t.made : Int))).heap[w5.heap.size]? = some (.deferred (some []))) := (put7_other _ _ _ _ _ _ _ _ _ _ (by omega)).trans ((hBV.block _ hsW5).trans hK)
    clear HEs HBl HP q0 q3 q4 q5 q2 a0 a1 a2 a3 a4 a5 a6 z0 z1 z2 z3 z4 z5 z6 y0 y3 y4 y5 d0 d3 d4 d5 d2 x2 CCp
    unfold put7 at HA9 HB9 HR9 HE9 HD9
    generalize World.setCell (World.setCell (World.setCell (World.setCell (World.setCell (World.setCell (World.setCell V _ _) _ _) _ _) _ _) _ _) _ _) _ _ = w9 at *
    go_wp2_with fail
    gi_wp2
    have p : ∀ j, j < 7 → (w9.putObj w5.heap.size (.deferred none)).cell? ⟨w.heap.size, j, none⟩ = some ([.int .i64 (t.L : Int), .int .i64 (Wd : Int), .slice (some ⟨wz.heap.size, 0, none⟩) S S, .slice ca t.es.length cc, .int .i64 (t.live : Int), .int .i64 (t.births : Int), .int .i64 (t.made : Int)].getD j .nilFunc) := fun j hj => (World.cell?_of_block (a := ⟨w.heap.size, j, none⟩) (World.putObj_heap_other (by show w.heap.size ≠ _; omega))).trans (HA9.out.c j hj)
    have p0 := p 0 (by omega)
    have p1 := p 1 (by omega)
    have p2 := p 2 (by omega)
    have p3 := p 3 (by omega)
    have p4 := p 4 (by omega)
    have p5 := p 5 (by omega)
    have p6 := p 6 (by omega)
    refine ⟨by simp, .inl ⟨_, _, rfl, run_takeDeferred HD9.out, ?_⟩⟩
    refine ⟨sgV t (wz.heap.size) (.slice ca t.es.length cc), ?_, wz.heap.size, .slice ca t.es.length cc, rfl, ⟨?_, ?_, by omega, ?_⟩, gi, r, h, HB9.out.next (ex_putObj _ _ _) (fun k hk => by subst hk; exact ⟨by omega, fun hd => by have := HDL.out _ hd; omega⟩)⟩
    · simp at p0 p1 p2 p3 p4 p5 p6
      unfold sgV
      rw [HSS.out, HWD.out]
      simp [results, Tryz.results8, go_sem, p0, p1, p2, p3, p4, p5, p6]
    · rw [HSS.out]
      exact HR9.out.same (World.putObj_heap_other (by omega))
    · refine ⟨HE9.out.1, ?_⟩
      rcases HE9.out.2 with h0 | ⟨g9, cap9, cur9, e9, h1, h2, h3⟩
      · exact .inl h0
      · exact .inr ⟨g9, cap9, cur9, e9, by omega, (World.putObj_heap_other (by omega)).trans h2, h3⟩
    · intro e
      have := hge _ e
      omega
end Go.Proofs.YtdjabdmnknlaeaaGreat
