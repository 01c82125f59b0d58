/-
  A dictionary of one's own, without a meter, and its machines, as the laws need them.
  A machine that is told the same; turns compared; awake.
-/
import Derived.Test.YtooneobnfepncaaGreatPrStep2
import Derived.Test.YtooneobnfepncaaGreatLdMath
import Derived.Defers
namespace Go.Proofs.YtooneobnfepncaaGreat
open Go.RowKit Go.WideShapes

set_option maxRecDepth 100000 in
set_option maxHeartbeats 1600000 in
theorem ncount_nil (k n : Int) (w : World) :
    Calls Tryz.prog 146 #[.pointer none, .int .i64 k, .int .i64 n] w fun e w' => e = .returned (.tuple #[]) ∧ w' = w := by
  go_enter_defers Tryz.func146, Tryz.ntmps146
  go_wp2_with fail
  exact ⟨_, results_none rfl _ _ _, rfl, rfl⟩
theorem ntable_nil (w : World) : Calls Tryz.prog 118 #[.pointer none] w fun e w' => e = .returned (.tuple #[]) ∧ w' = w := by
  go_enter Tryz.func118, Tryz.ntmps118
  go_wp2_with fail
  refine (ncount_nil 0 1 w).mono ?_
  rintro e w' ⟨rfl, rfl⟩
  go_wp2
  go_end0
  exact ⟨rfl, rfl⟩
/-- A meter that is none. -/
def noM : Int → Int → World → Prop := fun _ _ _ => True
theorem mtOk_nil : MtOk (.pointer none) noM :=
  ⟨fun a b w _ _ _ => (ntable_nil w).mono fun e w' ⟨h1, h2⟩ => ⟨h1, trivial, by rw [h2]; exact Ex.refl _ _⟩, fun _ _ _ _ _ _ => trivial, fun a b w k _ h => by cases h⟩
theorem nvisit_nil (n : Int) (w : World) : Calls Tryz.prog 156 #[.pointer none, .int .i64 n] w fun e w' => e = .returned (.tuple #[]) ∧ w' = w := by
  go_enter Tryz.func156, Tryz.ntmps156
  go_wp2_with fail
  refine (ncount_nil 1 n w).mono ?_
  rintro e w' ⟨rfl, rfl⟩
  go_wp2
  go_end0
  exact ⟨rfl, rfl⟩
theorem mvOk_nil : MvOk (.pointer none) noM := fun a b w _ _ _ => (nvisit_nil 1 w).mono fun e w' ⟨h1, h2⟩ => ⟨h1, trivial, by rw [h2]; exact Ex.refl _ _⟩
theorem noneB {k : Nat} (h : mB (.pointer none) k) : False := by cases h
theorem someB {s k : Nat} (h : mB (.pointer (some ⟨s, 0, none⟩)) k) : k = s := by cases h; rfl

/-- A dictionary of one's own: all of it lies behind B, and apart from the blocks K. -/
structure Pd (K : Nat → Prop) (B : Nat) (w0 w : World) (d g gi r h : Nat) (ev : Value) (t : Tb) (most : Int) (v : Nat) : Prop where
  dc : Dc w d g gi r h ev t (.pointer none) most v
  fr : ∀ k, cX d g gi r h ev k → B ≤ k
  bl : Below B w0 w
  kp : ∀ k, K k → k < w.heap.size ∧ ¬ cX d g gi r h ev k
/-- The blocks K are as they were. -/
def Kp (K : Nat → Prop) (w w' : World) : Prop := ∀ k, K k → w'.heap[k]? = w.heap[k]?
/-- What a step may meet. -/
structure Fit (t : Tb) (v : Nat) : Prop where
  made : t.made ≤ 1000000
  turn : t.turn ≤ 1000000
  births : t.births < 100000
  ver : v ≤ 1000000000
theorem Pd.size {K : Nat → Prop} {B : Nat} {w0 w : World} {d g gi r h : Nat} {ev : Value} {t : Tb} {most : Int} {v : Nat} (p : Pd K B w0 w d g gi r h ev t most v) : B ≤ w.heap.size := Nat.le_trans (p.fr d (.inl rfl)) (Nat.le_of_lt (p.dc.lt d (.inl rfl)))
theorem Pd.below {K : Nat → Prop} {B : Nat} {w0 w w' : World} {d g gi r h : Nat} {ev : Value} {t : Tb} {most : Int} {v : Nat} (p : Pd K B w0 w d g gi r h ev t most v) (hb : Below w.heap.size w w') : Pd K B w0 w' d g gi r h ev t most v := ⟨p.dc.below hb, p.fr, p.bl.trans (hb.mono p.size), fun k hk => ⟨Nat.lt_of_lt_of_le (p.kp k hk).1 hb.size, (p.kp k hk).2⟩⟩
theorem Pd.kept {K : Nat → Prop} {B : Nat} {w0 w w' : World} {d g gi r h : Nat} {ev : Value} {t : Tb} {most : Int} {v : Nat} (p : Pd K B w0 w d g gi r h ev t most v) (hb : Below w.heap.size w w') : Kp K w w' := fun k hk => hb.block k (p.kp k hk).1
/-- Other blocks are to be kept. -/
theorem Pd.withK {K K' : Nat → Prop} {B : Nat} {w0 w : World} {d g gi r h : Nat} {ev : Value} {t : Tb} {most : Int} {v : Nat} (p : Pd K B w0 w d g gi r h ev t most v) (hk : ∀ k, K' k → k < w.heap.size ∧ ¬ cX d g gi r h ev k) : Pd K' B w0 w d g gi r h ev t most v := ⟨p.dc, p.fr, p.bl, hk⟩
theorem Pd.noK {K : Nat → Prop} {B : Nat} {w0 w : World} {d g gi r h : Nat} {ev : Value} {t : Tb} {most : Int} {v : Nat} (p : Pd K B w0 w d g gi r h ev t most v) : Pd (fun _ => False) B w0 w d g gi r h ev t most v := p.withK (fun _ h => h.elim)
/-- Blocks of K were written. -/
theorem Pd.touch {K : Nat → Prop} {B : Nat} {w0 w w' : World} {d g gi r h : Nat} {ev : Value} {t : Tb} {most : Int} {v : Nat} (p : Pd K B w0 w d g gi r h ev t most v) (hx : Ex K w w') (hK : ∀ k, K k → B ≤ k) : Pd K B w0 w' d g gi r h ev t most v :=
  ⟨p.dc.same fun k hk => hx.block k (p.dc.lt k hk) (fun y => (p.kp k y).2 hk), p.fr, p.bl.trans (hx.below hK p.size), fun k hk => ⟨Nat.lt_of_lt_of_le (p.kp k hk).1 hx.size, (p.kp k hk).2⟩⟩
theorem Pd.cm {K : Nat → Prop} {B : Nat} {w0 w w' : World} {d g gi r h : Nat} {ev : Value} {t t' : Tb} {most : Int} {v v' : Nat} {x : Nat} {sv : Value} {a b : Int} {gi' r' h' : Nat} {ev' : Value} (p : Pd K B w0 w d g gi r h ev t most v) (hx : B ≤ x) (hs : ∀ k, mB sv k → B ≤ k) (c : Cm w d g gi r h ev (.pointer none) noM x sv a b most v' t' w' gi' r' h' ev') : Pd K B w0 w' d g gi' r' h' ev' t' most v' := by
  have hB := p.size
  refine ⟨c.dc, fun k hk => ?_, p.bl.trans (c.ex.below (fun k hk => ?_) hB), fun k hk => ⟨Nat.lt_of_lt_of_le (p.kp k hk).1 c.ex.size, fun hc => ?_⟩⟩
  · rcases hk with hk | hk
    · exact p.fr k (.inl hk)
    · rcases c.fx k hk with y | y
      · exact p.fr k (.inr y)
      · omega
  · rcases hk with y | y | y | y
    · exact p.fr k y
    · exact (noneB y).elim
    · omega
    · exact hs k y
  · obtain ⟨h1, h2⟩ := p.kp k hk
    rcases hc with hc | hc
    · exact h2 (.inl hc)
    · rcases c.fx k hc with y | y
      · exact h2 (.inr y)
      · omega
theorem Pd.cmk {K : Nat → Prop} {B : Nat} {w0 w w' : World} {d g gi r h : Nat} {ev : Value} {t t' : Tb} {most : Int} {v v' : Nat} {x : Nat} {sv : Value} {a b : Int} {gi' r' h' : Nat} {ev' : Value} (p : Pd K B w0 w d g gi r h ev t most v) (kx : ¬ K x) (ks : ∀ k, mB sv k → ¬ K k) (c : Cm w d g gi r h ev (.pointer none) noM x sv a b most v' t' w' gi' r' h' ev') : Kp K w w' := fun k hk => c.ex.block k (p.kp k hk).1 (fun y => by
  rcases y with y | y | y | y
  · exact (p.kp k hk).2 y
  · exact noneB y
  · exact kx (y ▸ hk)
  · exact ks k y hk)
/-- A machine that has asked about n: it waits, or was told. -/
structure Aw (K : Nat → Prop) (B : Nat) (w0 w : World) (d x : Nat) (t : Tb) (most : Int) (v : Nat) (m : Ma) (n : Nat) (g gi r h : Nat) (ev : Value) (s j f : Nat) : Prop where
  pd : Pd K B w0 w d g gi r h ev t most v
  hx : B ≤ x
  hs : B ≤ s
  mx : Mx w d g gi r h ev (.pointer none) x (.pointer (some ⟨s, 0, none⟩)) m
  sw : Sw w d g gi r h ev t (.pointer none) x s m.hash j (n : Int) f
  of : Of t.es m.hash n
  asked : m.asked = (n : Int)
  ver : m.ver = v
  scans : m.scans = 1
  kx : ¬ K x
  ks : ¬ K s
theorem Aw.withK {K K' : Nat → Prop} {B : Nat} {w0 w : World} {d x : Nat} {t : Tb} {most : Int} {v : Nat} {m : Ma} {n g gi r h : Nat} {ev : Value} {s j f : Nat} (p : Aw K B w0 w d x t most v m n g gi r h ev s j f) (hk : ∀ k, K' k → k < w.heap.size ∧ ¬ cX d g gi r h ev k) (kx : ¬ K' x) (ks : ¬ K' s) : Aw K' B w0 w d x t most v m n g gi r h ev s j f := ⟨p.pd.withK hk, p.hx, p.hs, p.mx, p.sw, p.of, p.asked, p.ver, p.scans, kx, ks⟩
theorem Aw.below {K : Nat → Prop} {B : Nat} {w0 w w' : World} {d x : Nat} {t : Tb} {most : Int} {v : Nat} {m : Ma} {n g gi r h : Nat} {ev : Value} {s j f : Nat} (p : Aw K B w0 w d x t most v m n g gi r h ev s j f) (hb : Below w.heap.size w w') : Aw K B w0 w' d x t most v m n g gi r h ev s j f := ⟨p.pd.below hb, p.hx, p.hs, p.mx.below hb, p.sw.of (hb.block s (p.sw.sk.lt (by omega))), p.of, p.asked, p.ver, p.scans, p.kx, p.ks⟩
theorem Aw.touch {K : Nat → Prop} {B : Nat} {w0 w w' : World} {d x : Nat} {t : Tb} {most : Int} {v : Nat} {m : Ma} {n g gi r h : Nat} {ev : Value} {s j f : Nat} (p : Aw K B w0 w d x t most v m n g gi r h ev s j f) (hx : Ex K w w') (hK : ∀ k, K k → B ≤ k) : Aw K B w0 w' d x t most v m n g gi r h ev s j f := ⟨p.pd.touch hx hK, p.hx, p.hs, ⟨p.mx.mc.same (hx.block x (p.mx.mc.lt (by omega)) p.kx), p.mx.ne, p.mx.nm⟩, p.sw.of (hx.block s (p.sw.sk.lt (by omega)) p.ks), p.of, p.asked, p.ver, p.scans, p.kx, p.ks⟩
/-- A machine that has ended, in its first scan. -/
structure En1 (w : World) (d x : Nat) (m : Ma) (L : Nat) (s j : Nat) : Prop where
  mc : Mc w x (.pointer (some ⟨s, 0, none⟩)) d m
  vi : Vi w s j
  le : j ≤ 2 ^ L + 13
  scans : m.scans = 1
/-- What a step of a machine tells in its first scan, its key being none of the keys of its hash. -/
def LwR (K : Nat → Prop) (B : Nat) (w0 : World) (d x : Nat) (t : Tb) (most : Int) (v : Nat) (m1 : Ma) (told : Int) (u : Tu) (w' : World) : Prop :=
  (∃ n : Nat, Of t.es m1.hash n ∧ told < (n : Int) ∧ (∀ k, Of t.es m1.hash k → told < (k : Int) → n ≤ k) ∧ u = ⟨1, (nth t.es n).key, false, 0, 0⟩ ∧ ∃ g gi r h ev s j f, Aw K B w0 w' d x t most v { m1 with asked := (n : Int), u := u } n g gi r h ev s j f) ∨
  ((∀ n, Of t.es m1.hash n → (n : Int) ≤ told) ∧ (∃ s j, En1 w' d x { m1 with u := u } t.L s j ∧ ¬ K s ∧ ¬ K x) ∧ MsR m1 t most u (fun _ dv t' => ∃ g gi' r' h' ev', Pd K B w0 w' d g gi' r' h' ev' t' most (v + dv)))
theorem aw_tell {K : Nat → Prop} {B : Nat} {w0 w : World} {d x : Nat} {t : Tb} {most : Int} {v : Nat} {m : Ma} {n g gi r h : Nat} {ev : Value} {s j f : Nat} (p : Aw K B w0 w d x t most v m n g gi r h ev s j f) (hk : m.u.kind = 1) (c : Bool) :
    Calls Tryz.prog 22 #[.pointer (some ⟨x, 0, none⟩), .bool c] w fun e w' => e = .returned (.int .i64 0) ∧ Aw K B w0 w' d x t most v { m with u := Tu.zero, same := c } n g gi r h ev s j f ∧ Kp K w w' := by
  refine (tell_yes p.mx.mc hk c).mono ?_
  rintro e w' ⟨rfl, hm, hx⟩
  have hb : Below B w w' := hx.below (fun k hk => by have := p.hx; omega) p.pd.size
  refine ⟨rfl, ⟨⟨p.pd.dc.same fun k hk => hx.block k (p.pd.dc.lt k hk) (fun e => p.mx.ne (e ▸ hk)), p.pd.fr, p.pd.bl.trans hb, fun k hk => ⟨Nat.lt_of_lt_of_le (p.pd.kp k hk).1 hx.size, (p.pd.kp k hk).2⟩⟩, p.hx, p.hs, ⟨hm, p.mx.ne, p.mx.nm⟩, p.sw.of (hx.block s (p.sw.sk.lt (by omega)) p.sw.nx), p.of, p.asked, p.ver, p.scans, p.kx, p.ks⟩, fun k hk => hx.block k (p.pd.kp k hk).1 (fun e => p.kx (e ▸ hk))⟩
theorem SoR.lw {K : Nat → Prop} {B : Nat} {w0 w : World} {d g gi r h : Nat} {ev : Value} {t : Tb} {x : Nat} {sv : Value} {most : Int} {v : Nat} {m1 : Ma} {s i : Nat} {told : Int} {f : Nat} {u : Tu} {w' : World} (q : SoR w d g gi r h ev t (.pointer none) noM x sv 0 0 most v m1 s i told f u w') (p : Pd K B w0 w d g gi r h ev t most v) (hx : B ≤ x) (hsv : ∀ k, mB sv k → B ≤ k) (hs : B ≤ s) (hf : f < 2 ^ t.L + 13) (hne : ¬ cX d g gi r h ev x) (kx : ¬ K x) (ks : ¬ K s) (ksv : ∀ k, mB sv k → ¬ K k) (h1 : m1.scans = 1) (hv : m1.ver = v) (hk : ∀ n, Of t.es m1.hash n → (nth t.es n).key ≠ m1.key) : LwR K B w0 d x t most v m1 told u w' ∧ Kp K w w' := by
  obtain ⟨j, _, h2, (⟨n, h3, h4, h5, (⟨h6, h7, h8, h9, h10⟩ | ⟨h6, h7, h8, h9, h10⟩)⟩ | ⟨h3, h4, h5, h6, h7⟩)⟩ := q
  · exact absurd h6 (hk n h3)
  · exact ⟨.inl ⟨n, h3, h4, h5, h7, g, gi, r, h, ev, s, _, f, p.cm hx hsv h8, hx, hs, ⟨h9, hne, fun y => noneB y⟩, h10, h3, rfl, hv, h1, kx, ks⟩, p.cmk kx ksv h8⟩
  · refine ⟨.inr ⟨h4, ⟨s, _, ⟨h6, h7, by omega, h1⟩, ks, kx⟩, h5.mono (fun _ _ _ ⟨gi', r', h', ev', c⟩ => ⟨g, gi', r', h', ev', p.cm hx hsv c⟩)⟩, ?_⟩
    obtain ⟨_, _, _, _, _, _, _, c⟩ := h5.any
    exact p.cmk kx ksv c
theorem aw_step {K : Nat → Prop} {B : Nat} {w0 w : World} {d x : Nat} {t : Tb} {most : Int} {v : Nat} {m : Ma} {n g gi r h : Nat} {ev : Value} {s j f : Nat} (p : Aw K B w0 w d x t most v m n g gi r h ev s j f) (hk : m.u.kind = 0) (hsame : m.same = false) (ft : Fit t v) (hkey : ∀ n, Of t.es m.hash n → (nth t.es n).key ≠ m.key) :
    Calls Tryz.prog 21 #[.pointer (some ⟨x, 0, none⟩)] w fun e w' => ∃ u, e = .returned (tuV u) ∧ LwR K B w0 d x t most v m (n : Int) u w' ∧ Kp K w w' := by
  have hsv : ∀ k, mB (.pointer (some ⟨s, 0, none⟩)) k → k < w.heap.size := fun k hk => by rw [someB hk]; exact p.sw.sk.lt (by omega)
  refine (step_next p.pd.dc mtOk_nil mvOk_nil (a := 0) (b := 0) trivial ft.made (by decide) (by decide) ft.turn ft.births ft.ver p.mx hk hsv (by rw [p.scans]; decide) (by rw [p.ver]; exact ft.ver) (.inr ⟨by rw [p.scans]; decide, p.ver, hsame, s, j, _, f, rfl, p.sw⟩)).mono ?_
  rintro e w' ⟨u, s', i, told, f', sc, rfl, hS, q⟩
  refine ⟨u, rfl, ?_⟩
  have hsc := p.scans
  have hve := p.ver
  rcases hS with ⟨y, _⟩ | ⟨_, y2, y3, y4⟩
  · rcases y with y | y
    · omega
    · exact absurd hve y
  · have e1 : s' = s := by cases y2; rfl
    subst e1
    have e2 : told = (n : Int) := by
      have h1 := p.sw.sk.c 6 (by omega)
      have h2 := y4.sk.c 6 (by omega)
      rw [h1] at h2
      injection h2 with h2
      injection h2 with _ h2
      exact h2.symm
    subst e2
    have em : ({ m with ver := v, scans := sc } : Ma) = m := by cases m; simp at hve y3; simp [hve, y3]
    rw [em] at q
    exact q.lw p.pd p.hx (fun k hk => by rw [someB hk]; exact p.hs) p.hs y4.lt p.mx.ne p.kx p.ks (fun k hk => by rw [someB hk]; exact p.ks) hsc hve hkey
theorem fresh_step {K : Nat → Prop} {B : Nat} {w0 w : World} {d x g gi r h : Nat} {ev : Value} {t : Tb} {most : Int} {v : Nat} (p : Pd K B w0 w d g gi r h ev t most v) (hx : B ≤ x) {goal : Nat} {uh key value : Int} (hm : Mc w x (.pointer none) d ⟨goal, uh, key, value, 0, 0, Tu.zero, 0, false⟩) (hne : ¬ cX d g gi r h ev x) (kx : ¬ K x) (ft : Fit t v) (hkey : ∀ n, Of t.es uh n → (nth t.es n).key ≠ key) :
    Calls Tryz.prog 21 #[.pointer (some ⟨x, 0, none⟩)] w fun e w' => ∃ u, e = .returned (tuV u) ∧ LwR K B w0 d x t most v ⟨goal, uh, key, value, v, 1, Tu.zero, 0, false⟩ (-1) u w' ∧ Kp K w w' := by
  refine (step_next p.dc mtOk_nil mvOk_nil (a := 0) (b := 0) trivial ft.made (by decide) (by decide) ft.turn ft.births ft.ver ⟨hm, hne, fun y => noneB y⟩ rfl (fun k y => (noneB y).elim) (Nat.zero_le _) (Nat.zero_le _) (.inl (.inl rfl))).mono ?_
  rintro e w' ⟨u, s', i, told, f', sc, rfl, hS, q⟩
  refine ⟨u, rfl, ?_⟩
  rcases hS with ⟨_, rfl, rfl, rfl, y, hf⟩ | ⟨⟨y, _⟩, _⟩
  · exact SoR.lw q p hx (fun k y => (noneB y).elim) (Nat.le_trans p.size y) hf hne kx (fun hk => by have := (p.kp s' hk).1; omega) (fun k y => (noneB y).elim) rfl rfl hkey
  · exact absurd rfl y
end Go.Proofs.YtooneobnfepncaaGreat
namespace Go.Proofs.YtooneobnfepncaaGreat
open Go.RowKit Go.WideShapes

theorem aw_same {K : Nat → Prop} {B : Nat} {w0 w : World} {d x : Nat} {t : Tb} {most : Int} {v : Nat} {m : Ma} {n g gi r h : Nat} {ev : Value} {s j f : Nat} (p : Aw K B w0 w d x t most v m n g gi r h ev s j f) (hk : m.u.kind = 0) (hsame : m.same = true) (ft : Fit t v) (hg : m.goal = 1) :
    Calls Tryz.prog 21 #[.pointer (some ⟨x, 0, none⟩)] w fun e w' => e = .returned (tuV ⟨2, 0, true, (nth t.es n).value, (n : Int)⟩) ∧ En1 w' d x { m with u := ⟨2, 0, true, (nth t.es n).value, (n : Int)⟩ } t.L s j ∧ Pd K B w0 w' d g gi r h ev t most v ∧ Kp K w w' := by
  have hsv : ∀ k, mB (.pointer (some ⟨s, 0, none⟩)) k → k < w.heap.size := fun k hk => by rw [someB hk]; exact p.sw.sk.lt (by omega)
  refine (step_told p.pd.dc mtOk_nil (a := 0) (b := 0) trivial ft.turn ft.ver p.mx hk hsv (by rw [p.scans]; decide) p.ver hsame n p.asked p.of.1 p.of.2.1).mono ?_
  rintro e w' ⟨rfl, hc, hm, hks⟩
  have eT : hitT m t n = t := by rw [hitT, hg]; rfl
  have eN : hitN m.goal v = v := by rw [hitN, hg]; rfl
  rw [eT, eN] at hc
  have hle := p.sw.le
  have hlt := p.sw.lt
  exact ⟨rfl, ⟨hm, Vi.same ⟨_, _, _, _, _, _, p.sw.sk⟩ (hks s (p.sw.sk.lt (by omega)) p.sw.nc p.sw.nm p.sw.nx), by omega, p.scans⟩, p.pd.cm p.hx (fun k hk => by rw [someB hk]; exact p.hs) hc, p.pd.cmk p.kx (fun k hk => by rw [someB hk]; exact p.ks) hc⟩
/-- Two turns that are the same. -/
def tuE (x y : Tu) : Bool := x.kind == y.kind && (x.key == y.key && (x.found == y.found && (x.value == y.value && x.entry == y.entry)))
theorem tu_eq (x y : Tu) (w : World) : (binOp .eql 77 (tuV x) (tuV y)).run Tryz.prog w = .ok (.bool (tuE x y)) w := by
  unfold tuV tuE
  have hu : Tryz.prog.underlying 77 = some (.struct (Tryz.prog.fieldsOf 77)) := by kernel_rfl
  have hp : Tryz.prog.stoodInHeld 77 = false := by kernel_rfl
  rw [run_eql_struct, run_equalIn_agg w 9999 _ _ _ hu hp]
  have hF : (Tryz.prog.fieldsOf 77).toList = [⟨"Kind", 3, 0, false, "", "", 0⟩, ⟨"Key", 3, 1, false, "", "", 8⟩, ⟨"Found", 4, 2, false, "", "", 16⟩, ⟨"Value", 3, 3, false, "", "", 24⟩, ⟨"Entry", 3, 4, false, "", "", 32⟩] := by kernel_rfl
  rw [hF]
  by_cases h0 : x.kind = y.kind
  · by_cases h1 : x.key = y.key
    · by_cases h2 : x.found = y.found
      · by_cases h3 : x.value = y.value
        · by_cases h4 : x.entry = y.entry
          · simp [Op.eqFields, go_sem, h0, h1, h2, h3, h4]
          · simp [Op.eqFields, go_sem, h0, h1, h2, h3, h4]
        · simp [Op.eqFields, go_sem, h0, h1, h2, h3]
      · simp [Op.eqFields, go_sem, h0, h1, h2]
    · simp [Op.eqFields, go_sem, h0, h1]
  · simp [Op.eqFields, go_sem, h0]
theorem tu_ne (x y : Tu) (w : World) : (binOp .neq 77 (tuV x) (tuV y)).run Tryz.prog w = .ok (.bool (!tuE x y)) w := by
  have h := tu_eq x y w
  unfold tuV at h ⊢
  rw [run_eql_struct] at h
  rw [run_neq_struct]
  cases hr : (Op.equalIn 10000 77 (.agg #[.int .i64 x.kind, .int .i64 x.key, .bool x.found, .int .i64 x.value, .int .i64 x.entry]) (.agg #[.int .i64 y.kind, .int .i64 y.key, .bool y.found, .int .i64 y.value, .int .i64 y.entry])).run Tryz.prog w with
  | ok b w' =>
    rw [hr] at h
    simp [Result.andThen] at h ⊢
    obtain ⟨rfl, rfl⟩ := h
    exact ⟨rfl, rfl⟩
  | halt a w' => rw [hr] at h; simp [Result.andThen] at h
theorem neMa (x : Nat) (w : World) : (binOp .neq 54 (.pointer (some ⟨x, 0, none⟩)) (.pointer none)).run Tryz.prog w = .ok (.bool true) w := by kernel_rfl
/-- The machine of a dictionary of one's own that was begun. -/
theorem lw_begin {K : Nat → Prop} {B : Nat} {w0 w : World} {d g gi r h : Nat} {ev : Value} {t : Tb} {most : Int} {v : Nat} (p : Pd K B w0 w d g gi r h ev t most v) (goal : Nat) (hg1 : 1 ≤ goal) (hg4 : goal ≤ 4) (u k x : Int) :
    Calls Tryz.prog 14 #[.pointer (some ⟨d, 0, none⟩), .int .i64 (goal : Int), .int .i64 u, .int .i64 k, .int .i64 x] w fun e w' => ∃ b, e = .returned (.pointer (some ⟨b, 0, none⟩)) ∧ B ≤ b ∧ ¬ K b ∧ ¬ cX d g gi r h ev b ∧ Mc w' b (.pointer none) d ⟨goal, u, k, x, 0, 0, Tu.zero, 0, false⟩ ∧ Pd K B w0 w' d g gi r h ev t most v ∧ Kp K w w' := by
  refine (begin_yes d goal hg1 hg4 u k x w).mono ?_
  rintro e w' ⟨b, rfl, hb, hm, hbl⟩
  exact ⟨b, rfl, Nat.le_trans p.size hb, fun hk => by have := (p.kp b hk).1; omega, fun hk => by have := p.dc.lt b hk; omega, hm, p.below hbl, p.kept hbl⟩
theorem lw_new (w : World) (most : Int) (h0 : 0 ≤ most) (h1 : most ≤ 65536) :
    Calls Tryz.prog 28 #[.int .i64 most, .pointer none] w fun e w' => ∃ d g gi r h, e = .returned (.tuple #[.pointer (some ⟨d, 0, none⟩), .int .i64 0]) ∧ Pd (fun _ => False) w.heap.size w w' d g gi r h (.slice none 0 0) Tb.new most 0 := by
  refine (pnew_any (w := w) (pm := none) (a := 0) (b := 0) mtOk_nil trivial (by decide) most h0 h1).mono ?_
  rintro e w' ⟨d, g, gi, r, h, rfl, hf, hD, _, hX⟩
  exact ⟨d, g, gi, r, h, rfl, hD, hf, hX.below (fun k hk => (noneB hk).elim) (Nat.le_refl _), fun _ h => h.elim⟩
theorem new_none (u : Int) (n : Nat) : ¬ Of Tb.new.es u n := fun h => absurd h.1 (Nat.not_lt_zero _)
theorem awake_add : (Tb.new.add 7 1 10).es = [⟨true, 7, 1, 10, 0⟩] := by
  have h1 : Tb.new.add 7 1 10 = Tb.new.push 7 1 10 := by unfold Tb.add; rw [if_pos (by show 0 < rm (2 ^ 3); decide)]
  rw [h1]
  rfl
set_option maxRecDepth 100000 in
set_option maxHeartbeats 4000000 in
theorem awake8_any (w : World) : Calls Tryz.prog 8 #[] w fun e w' => e = .returned (.bool true) ∧ Below w.heap.size w w' := by
  have CN := lw_new w 3 (by decide) (by decide)
  go_enter Tryz.func8, Tryz.ntmps8
  go_wp2_with fail
  refine CN.mono ?_
  rintro e w1 ⟨d, g, gi, r, h, rfl, hP⟩
  clear CN
  have CB := lw_begin hP 2 (by decide) (by decide) 7 1 10
  have h1 := eqD d
  clear hP
  go_wp2_with fail
  refine CB.mono ?_
  rintro e w2 ⟨x, rfl, hx, hkx, hnx, hm, hP, _⟩
  clear CB h1
  have h1 := eqMa x
  have CS := fresh_step hP hx hm hnx hkx ⟨by decide, by decide, by decide, by decide⟩ (fun n hn => (new_none _ n hn).elim)
  clear hP hm
  go_wp2_with fail
  refine CS.mono ?_
  rintro e w3 ⟨u, rfl, hL, _⟩
  clear CS
  obtain ⟨hu, g2, gi2, r2, h2, ev2, hP⟩ : u = ⟨2, 0, false, 10, 0⟩ ∧ ∃ g gi' r' h' ev', Pd (fun _ => False) w.heap.size w w3 d g gi' r' h' ev' (Tb.new.add 7 1 10) 3 1 := by
    rcases hL with ⟨n, hO, _⟩ | ⟨_, _, hM⟩
    · exact (new_none _ n hO).elim
    · rcases hM with ⟨_, _, q, y⟩ | ⟨_, q, _⟩ | ⟨q, _⟩
      · refine ⟨?_, y⟩
        rw [q, awake_add]
        rfl
      · exact absurd (by decide) q
      · exact absurd (.inl rfl) q
  subst hu
  clear hL
  have e1 := tu_ne ⟨2, 0, false, 10, 0⟩ ⟨2, 0, false, 10, 0⟩
  have e1' : (!tuE ⟨2, 0, false, 10, 0⟩ ⟨2, 0, false, 10, 0⟩) = false := by decide
  rw [e1'] at e1
  unfold tuV at e1 ⊢
  have CB := lw_begin hP 1 (by decide) (by decide) 7 2 0
  clear hP
  go_wp2_with fail
  refine CB.mono ?_
  rintro e w4 ⟨y, rfl, hy, hky, hny, hm, hP, _⟩
  clear CB h1 e1 e1'
  have h1 := neMa y
  have r0 := Tb.new.add_rest 7 1 10
  have hes := awake_add
  have hft : Fit (Tb.new.add 7 1 10) 1 := ⟨Nat.le_trans r0.2.1 (by decide), by rw [r0.2.2.2]; decide, by rw [r0.1]; decide, by decide⟩
  generalize Tb.new.add 7 1 10 = T at *
  have CS := fresh_step hP hy hm hny hky hft (fun n hn => by
    have hl := hn.1
    rw [hes] at hl ⊢
    have : n = 0 := by simp at hl; exact hl
    subst this
    decide)
  have HT := Lib.hid hes
  have HF := Lib.hid hft
  clear hP hm r0 hes hft
  go_wp2_with fail
  refine CS.mono ?_
  rintro e w5 ⟨u, rfl, hL, _⟩
  clear CS
  obtain ⟨hu, g3, gi3, r3, h3, ev3, s3, j3, f3, hA⟩ : u = ⟨1, 1, false, 0, 0⟩ ∧ ∃ g gi r h ev s j f, Aw (fun _ => False) w.heap.size w w5 d y T 3 1 ⟨1, 7, 2, 0, 1, 1, ⟨1, 1, false, 0, 0⟩, 0, false⟩ 0 g gi r h ev s j f := by
    have h0 : Of T.es 7 0 := by rw [HT.out]; exact ⟨by decide, rfl, rfl⟩
    rcases hL with ⟨n, hO, _, hmin, q, hh⟩ | ⟨q, _⟩
    · have : n = 0 := Nat.le_zero.1 (hmin 0 h0 (by decide))
      subst this
      have hk : (nth T.es 0).key = 1 := by rw [HT.out]; rfl
      rw [hk] at q
      subst q
      exact ⟨rfl, hh⟩
    · exact absurd (q 0 h0) (by decide)
  subst hu
  clear hL
  have e1 := tu_eq ⟨1, 1, false, 0, 0⟩ ⟨1, 1, false, 0, 0⟩
  have e1' : tuE ⟨1, 1, false, 0, 0⟩ ⟨1, 1, false, 0, 0⟩ = true := by decide
  rw [e1'] at e1
  unfold tuV at e1 ⊢
  have CT := aw_tell hA rfl true
  clear hA
  go_wp2_with fail
  refine CT.mono ?_
  rintro e w6 ⟨rfl, hA, _⟩
  clear CT e1 e1'
  have CS := aw_same hA rfl rfl HF.out rfl
  have hk : (nth T.es 0).value = 10 := by rw [HT.out]; rfl
  rw [hk] at CS
  clear hA hk
  go_wp2_with fail
  refine CS.mono ?_
  rintro e w7 ⟨rfl, _, hP, _⟩
  clear CS
  have e1 := tu_eq ⟨2, 0, true, 10, 0⟩ ⟨2, 0, true, 10, 0⟩
  have e1' : tuE ⟨2, 0, true, 10, 0⟩ ⟨2, 0, true, 10, 0⟩ = true := by decide
  rw [e1'] at e1
  unfold tuV at e1 ⊢
  have HB := Lib.hid hP.bl
  clear hP
  simp only [Int.cast_ofNat_Int]
  go_wp2_with fail
  go_ret
  exact ⟨rfl, HB.out⟩
end Go.Proofs.YtooneobnfepncaaGreat
