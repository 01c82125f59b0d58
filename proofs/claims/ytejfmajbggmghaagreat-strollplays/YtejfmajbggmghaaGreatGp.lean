/-
  A dictionary of one's own, without a meter, and its machines, as the laws need them.
  A machine more, and away again.
-/
import Derived.Test.YtejfmajbggmghaaGreatGj
import Derived.Test.YtejfmajbggmghaaGreatGl
import Derived.Defers
import Derived.Test.YtejfmajbggmghaaGreatGo
namespace Go.Proofs.YtejfmajbggmghaaGreat
open Go.RowKit Go.WideShapes

set_option maxRecDepth 100000 in
set_option maxHeartbeats 1600000 in
theorem ncount_nil (k n : Int) (w : World) :
    Calls Tryz.prog 100 #[.pointer none, .int .i64 k, .int .i64 n] w fun e w' => e = .returned (.tuple #[]) ∧ w' = w := by
  go_enter_defers Tryz.func100, Tryz.ntmps100
  go_wp2_with fail
  exact ⟨_, results_none rfl _ _ _, rfl, rfl⟩
theorem ntable_nil (w : World) : Calls Tryz.prog 79 #[.pointer none] w fun e w' => e = .returned (.tuple #[]) ∧ w' = w := by
  go_enter Tryz.func79, Tryz.ntmps79
  go_wp2_with fail
  refine (ncount_nil 0 1 w).mono ?_
  rintro e w' ⟨rfl, rfl⟩
  go_wp2
  go_end0
  exact ⟨rfl, rfl⟩
/-- A meter that is none. -/
def noM : Int → Int → World → Prop := fun _ _ _ => True
theorem mtOk_nil : MtOk (.pointer none) noM :=
  ⟨fun a b w _ _ _ => (ntable_nil w).mono fun e w' ⟨h1, h2⟩ => ⟨h1, trivial, by rw [h2]; exact Ex.refl _ _⟩, fun _ _ _ _ _ _ => trivial, fun a b w k _ h => by cases h⟩
theorem nvisit_nil (n : Int) (w : World) : Calls Tryz.prog 96 #[.pointer none, .int .i64 n] w fun e w' => e = .returned (.tuple #[]) ∧ w' = w := by
  go_enter Tryz.func96, Tryz.ntmps96
  go_wp2_with fail
  refine (ncount_nil 1 n w).mono ?_
  rintro e w' ⟨rfl, rfl⟩
  go_wp2
  go_end0
  exact ⟨rfl, rfl⟩
theorem mvOk_nil : MvOk (.pointer none) noM := fun a b w _ _ _ => (nvisit_nil 1 w).mono fun e w' ⟨h1, h2⟩ => ⟨h1, trivial, by rw [h2]; exact Ex.refl _ _⟩
theorem noneB {k : Nat} (h : mB (.pointer none) k) : False := by cases h
theorem someB {s k : Nat} (h : mB (.pointer (some ⟨s, 0, none⟩)) k) : k = s := by cases h; rfl

/-- A dictionary of one's own: all of it lies behind B, and apart from the blocks K. -/
structure Pd (K : Nat → Prop) (B : Nat) (w0 w : World) (d g gi r h : Nat) (ev : Value) (t : Tb) (most : Int) (v : Nat) : Prop where
  dc : Dc w d g gi r h ev t (.pointer none) most v
  fr : ∀ k, cX d g gi r h ev k → B ≤ k
  bl : Below B w0 w
  kp : ∀ k, K k → k < w.heap.size ∧ ¬ cX d g gi r h ev k
/-- The blocks K are as they were. -/
def Kp (K : Nat → Prop) (w w' : World) : Prop := ∀ k, K k → w'.heap[k]? = w.heap[k]?
/-- What a step may meet. -/
structure Fit (t : Tb) (v : Nat) : Prop where
  made : t.made ≤ 1000000
  turn : t.turn ≤ 1000000
  births : t.births < 100000
  ver : v ≤ 1000000000
theorem Pd.size {K : Nat → Prop} {B : Nat} {w0 w : World} {d g gi r h : Nat} {ev : Value} {t : Tb} {most : Int} {v : Nat} (p : Pd K B w0 w d g gi r h ev t most v) : B ≤ w.heap.size := Nat.le_trans (p.fr d (.inl rfl)) (Nat.le_of_lt (p.dc.lt d (.inl rfl)))
theorem Pd.below {K : Nat → Prop} {B : Nat} {w0 w w' : World} {d g gi r h : Nat} {ev : Value} {t : Tb} {most : Int} {v : Nat} (p : Pd K B w0 w d g gi r h ev t most v) (hb : Below w.heap.size w w') : Pd K B w0 w' d g gi r h ev t most v := ⟨p.dc.below hb, p.fr, p.bl.trans (hb.mono p.size), fun k hk => ⟨Nat.lt_of_lt_of_le (p.kp k hk).1 hb.size, (p.kp k hk).2⟩⟩
theorem Pd.kept {K : Nat → Prop} {B : Nat} {w0 w w' : World} {d g gi r h : Nat} {ev : Value} {t : Tb} {most : Int} {v : Nat} (p : Pd K B w0 w d g gi r h ev t most v) (hb : Below w.heap.size w w') : Kp K w w' := fun k hk => hb.block k (p.kp k hk).1
/-- Other blocks are to be kept. -/
theorem Pd.withK {K K' : Nat → Prop} {B : Nat} {w0 w : World} {d g gi r h : Nat} {ev : Value} {t : Tb} {most : Int} {v : Nat} (p : Pd K B w0 w d g gi r h ev t most v) (hk : ∀ k, K' k → k < w.heap.size ∧ ¬ cX d g gi r h ev k) : Pd K' B w0 w d g gi r h ev t most v := ⟨p.dc, p.fr, p.bl, hk⟩
theorem Pd.noK {K : Nat → Prop} {B : Nat} {w0 w : World} {d g gi r h : Nat} {ev : Value} {t : Tb} {most : Int} {v : Nat} (p : Pd K B w0 w d g gi r h ev t most v) : Pd (fun _ => False) B w0 w d g gi r h ev t most v := p.withK (fun _ h => h.elim)
/-- Blocks of K were written. -/
theorem Pd.touch {K : Nat → Prop} {B : Nat} {w0 w w' : World} {d g gi r h : Nat} {ev : Value} {t : Tb} {most : Int} {v : Nat} (p : Pd K B w0 w d g gi r h ev t most v) (hx : Ex K w w') (hK : ∀ k, K k → B ≤ k) : Pd K B w0 w' d g gi r h ev t most v :=
  ⟨p.dc.same fun k hk => hx.block k (p.dc.lt k hk) (fun y => (p.kp k y).2 hk), p.fr, p.bl.trans (hx.below hK p.size), fun k hk => ⟨Nat.lt_of_lt_of_le (p.kp k hk).1 hx.size, (p.kp k hk).2⟩⟩
theorem Pd.cm {K : Nat → Prop} {B : Nat} {w0 w w' : World} {d g gi r h : Nat} {ev : Value} {t t' : Tb} {most : Int} {v v' : Nat} {x : Nat} {sv : Value} {a b : Int} {gi' r' h' : Nat} {ev' : Value} (p : Pd K B w0 w d g gi r h ev t most v) (hx : B ≤ x) (hs : ∀ k, mB sv k → B ≤ k) (c : Cm w d g gi r h ev (.pointer none) noM x sv a b most v' t' w' gi' r' h' ev') : Pd K B w0 w' d g gi' r' h' ev' t' most v' := by
  have hB := p.size
  refine ⟨c.dc, fun k hk => ?_, p.bl.trans (c.ex.below (fun k hk => ?_) hB), fun k hk => ⟨Nat.lt_of_lt_of_le (p.kp k hk).1 c.ex.size, fun hc => ?_⟩⟩
  · rcases hk with hk | hk
    · exact p.fr k (.inl hk)
    · rcases c.fx k hk with y | y
      · exact p.fr k (.inr y)
      · omega
  · rcases hk with y | y | y | y
    · exact p.fr k y
    · exact (noneB y).elim
    · omega
    · exact hs k y
  · obtain ⟨h1, h2⟩ := p.kp k hk
    rcases hc with hc | hc
    · exact h2 (.inl hc)
    · rcases c.fx k hc with y | y
      · exact h2 (.inr y)
      · omega
theorem Pd.cmk {K : Nat → Prop} {B : Nat} {w0 w w' : World} {d g gi r h : Nat} {ev : Value} {t t' : Tb} {most : Int} {v v' : Nat} {x : Nat} {sv : Value} {a b : Int} {gi' r' h' : Nat} {ev' : Value} (p : Pd K B w0 w d g gi r h ev t most v) (kx : ¬ K x) (ks : ∀ k, mB sv k → ¬ K k) (c : Cm w d g gi r h ev (.pointer none) noM x sv a b most v' t' w' gi' r' h' ev') : Kp K w w' := fun k hk => c.ex.block k (p.kp k hk).1 (fun y => by
  rcases y with y | y | y | y
  · exact (p.kp k hk).2 y
  · exact noneB y
  · exact kx (y ▸ hk)
  · exact ks k y hk)
/-- A machine that has asked about n: it waits, or was told. -/
structure Aw (K : Nat → Prop) (B : Nat) (w0 w : World) (d x : Nat) (t : Tb) (most : Int) (v : Nat) (m : Ma) (n : Nat) (g gi r h : Nat) (ev : Value) (s j f : Nat) : Prop where
  pd : Pd K B w0 w d g gi r h ev t most v
  hx : B ≤ x
  hs : B ≤ s
  mx : Mx w d g gi r h ev (.pointer none) x (.pointer (some ⟨s, 0, none⟩)) m
  sw : Sw w d g gi r h ev t (.pointer none) x s m.hash j (n : Int) f
  of : Of t.es m.hash n
  asked : m.asked = (n : Int)
  ver : m.ver = v
  scans : m.scans = 1
  kx : ¬ K x
  ks : ¬ K s
theorem Aw.withK {K K' : Nat → Prop} {B : Nat} {w0 w : World} {d x : Nat} {t : Tb} {most : Int} {v : Nat} {m : Ma} {n g gi r h : Nat} {ev : Value} {s j f : Nat} (p : Aw K B w0 w d x t most v m n g gi r h ev s j f) (hk : ∀ k, K' k → k < w.heap.size ∧ ¬ cX d g gi r h ev k) (kx : ¬ K' x) (ks : ¬ K' s) : Aw K' B w0 w d x t most v m n g gi r h ev s j f := ⟨p.pd.withK hk, p.hx, p.hs, p.mx, p.sw, p.of, p.asked, p.ver, p.scans, kx, ks⟩
theorem Aw.below {K : Nat → Prop} {B : Nat} {w0 w w' : World} {d x : Nat} {t : Tb} {most : Int} {v : Nat} {m : Ma} {n g gi r h : Nat} {ev : Value} {s j f : Nat} (p : Aw K B w0 w d x t most v m n g gi r h ev s j f) (hb : Below w.heap.size w w') : Aw K B w0 w' d x t most v m n g gi r h ev s j f := ⟨p.pd.below hb, p.hx, p.hs, p.mx.below hb, p.sw.of (hb.block s (p.sw.sk.lt (by omega))), p.of, p.asked, p.ver, p.scans, p.kx, p.ks⟩
theorem Aw.touch {K : Nat → Prop} {B : Nat} {w0 w w' : World} {d x : Nat} {t : Tb} {most : Int} {v : Nat} {m : Ma} {n g gi r h : Nat} {ev : Value} {s j f : Nat} (p : Aw K B w0 w d x t most v m n g gi r h ev s j f) (hx : Ex K w w') (hK : ∀ k, K k → B ≤ k) : Aw K B w0 w' d x t most v m n g gi r h ev s j f := ⟨p.pd.touch hx hK, p.hx, p.hs, ⟨p.mx.mc.same (hx.block x (p.mx.mc.lt (by omega)) p.kx), p.mx.ne, p.mx.nm⟩, p.sw.of (hx.block s (p.sw.sk.lt (by omega)) p.ks), p.of, p.asked, p.ver, p.scans, p.kx, p.ks⟩
/-- A machine that has ended, in its first scan. -/
structure En1 (w : World) (d x : Nat) (m : Ma) (L : Nat) (s j : Nat) : Prop where
  mc : Mc w x (.pointer (some ⟨s, 0, none⟩)) d m
  vi : Vi w s j
  le : j ≤ 2 ^ L + 13
  scans : m.scans = 1
/-- What a step of a machine tells in its first scan, its key being none of the keys of its hash. -/
def LwR (K : Nat → Prop) (B : Nat) (w0 : World) (d x : Nat) (t : Tb) (most : Int) (v : Nat) (m1 : Ma) (told : Int) (u : Tu) (w' : World) : Prop :=
  (∃ n : Nat, Of t.es m1.hash n ∧ told < (n : Int) ∧ (∀ k, Of t.es m1.hash k → told < (k : Int) → n ≤ k) ∧ u = ⟨1, (nth t.es n).key, false, 0, 0⟩ ∧ ∃ g gi r h ev s j f, Aw K B w0 w' d x t most v { m1 with asked := (n : Int), u := u } n g gi r h ev s j f) ∨
  ((∀ n, Of t.es m1.hash n → (n : Int) ≤ told) ∧ (∃ s j, En1 w' d x { m1 with u := u } t.L s j ∧ ¬ K s ∧ ¬ K x) ∧ MsR m1 t most u (fun _ dv t' => ∃ g gi' r' h' ev', Pd K B w0 w' d g gi' r' h' ev' t' most (v + dv)))
theorem aw_tell {K : Nat → Prop} {B : Nat} {w0 w : World} {d x : Nat} {t : Tb} {most : Int} {v : Nat} {m : Ma} {n g gi r h : Nat} {ev : Value} {s j f : Nat} (p : Aw K B w0 w d x t most v m n g gi r h ev s j f) (hk : m.u.kind = 1) (c : Bool) :
    Calls Tryz.prog 34 #[.pointer (some ⟨x, 0, none⟩), .bool c] w fun e w' => e = .returned (.int .i64 0) ∧ Aw K B w0 w' d x t most v { m with u := Tu.zero, same := c } n g gi r h ev s j f ∧ Kp K w w' := by
  refine (tell_yes p.mx.mc hk c).mono ?_
  rintro e w' ⟨rfl, hm, hx⟩
  have hb : Below B w w' := hx.below (fun k hk => by have := p.hx; omega) p.pd.size
  refine ⟨rfl, ⟨⟨p.pd.dc.same fun k hk => hx.block k (p.pd.dc.lt k hk) (fun e => p.mx.ne (e ▸ hk)), p.pd.fr, p.pd.bl.trans hb, fun k hk => ⟨Nat.lt_of_lt_of_le (p.pd.kp k hk).1 hx.size, (p.pd.kp k hk).2⟩⟩, p.hx, p.hs, ⟨hm, p.mx.ne, p.mx.nm⟩, p.sw.of (hx.block s (p.sw.sk.lt (by omega)) p.sw.nx), p.of, p.asked, p.ver, p.scans, p.kx, p.ks⟩, fun k hk => hx.block k (p.pd.kp k hk).1 (fun e => p.kx (e ▸ hk))⟩
theorem SoR.lw {K : Nat → Prop} {B : Nat} {w0 w : World} {d g gi r h : Nat} {ev : Value} {t : Tb} {x : Nat} {sv : Value} {most : Int} {v : Nat} {m1 : Ma} {s i : Nat} {told : Int} {f : Nat} {u : Tu} {w' : World} (q : SoR w d g gi r h ev t (.pointer none) noM x sv 0 0 most v m1 s i told f u w') (p : Pd K B w0 w d g gi r h ev t most v) (hx : B ≤ x) (hsv : ∀ k, mB sv k → B ≤ k) (hs : B ≤ s) (hf : f < 2 ^ t.L + 13) (hne : ¬ cX d g gi r h ev x) (kx : ¬ K x) (ks : ¬ K s) (ksv : ∀ k, mB sv k → ¬ K k) (h1 : m1.scans = 1) (hv : m1.ver = v) (hk : ∀ n, Of t.es m1.hash n → (nth t.es n).key ≠ m1.key) : LwR K B w0 d x t most v m1 told u w' ∧ Kp K w w' := by
  obtain ⟨j, _, h2, (⟨n, h3, h4, h5, (⟨h6, h7, h8, h9, h10⟩ | ⟨h6, h7, h8, h9, h10⟩)⟩ | ⟨h3, h4, h5, h6, h7⟩)⟩ := q
  · exact absurd h6 (hk n h3)
  · exact ⟨.inl ⟨n, h3, h4, h5.1, h7, g, gi, r, h, ev, s, _, f, p.cm hx hsv h8, hx, hs, ⟨h9, hne, fun y => noneB y⟩, h10, h3, rfl, hv, h1, kx, ks⟩, p.cmk kx ksv h8⟩
  · refine ⟨.inr ⟨h4, ⟨s, _, ⟨h6, h7, by omega, h1⟩, ks, kx⟩, h5.mono (fun _ _ _ ⟨gi', r', h', ev', c, _⟩ => ⟨g, gi', r', h', ev', p.cm hx hsv c⟩)⟩, ?_⟩
    obtain ⟨_, _, _, _, _, _, _, c, _⟩ := h5.any
    exact p.cmk kx ksv c
theorem aw_step {K : Nat → Prop} {B : Nat} {w0 w : World} {d x : Nat} {t : Tb} {most : Int} {v : Nat} {m : Ma} {n g gi r h : Nat} {ev : Value} {s j f : Nat} (p : Aw K B w0 w d x t most v m n g gi r h ev s j f) (hk : m.u.kind = 0) (hsame : m.same = false) (ft : Fit t v) (hkey : ∀ n, Of t.es m.hash n → (nth t.es n).key ≠ m.key) :
    Calls Tryz.prog 10 #[.pointer (some ⟨x, 0, none⟩)] w fun e w' => ∃ u, e = .returned (tuV u) ∧ LwR K B w0 d x t most v m (n : Int) u w' ∧ Kp K w w' := by
  have hsv : ∀ k, mB (.pointer (some ⟨s, 0, none⟩)) k → k < w.heap.size := fun k hk => by rw [someB hk]; exact p.sw.sk.lt (by omega)
  refine (step_next p.pd.dc mtOk_nil mvOk_nil (a := 0) (b := 0) trivial ft.made (by decide) (by decide) ft.turn ft.births ft.ver p.mx hk hsv (by rw [p.scans]; decide) (by rw [p.ver]; exact ft.ver) (.inr ⟨by rw [p.scans]; decide, p.ver, hsame, s, j, _, f, rfl, p.sw⟩)).mono ?_
  rintro e w' ⟨u, s', i, told, f', sc, rfl, hS, q⟩
  refine ⟨u, rfl, ?_⟩
  have hsc := p.scans
  have hve := p.ver
  rcases hS with ⟨y, _⟩ | ⟨_, y2, y3, y4⟩
  · rcases y with y | y
    · omega
    · exact absurd hve y
  · have e1 : s' = s := by cases y2; rfl
    subst e1
    have e2 : told = (n : Int) := by
      have h1 := p.sw.sk.c 6 (by omega)
      have h2 := y4.sk.c 6 (by omega)
      rw [h1] at h2
      injection h2 with h2
      injection h2 with _ h2
      exact h2.symm
    subst e2
    have em : ({ m with ver := v, scans := sc } : Ma) = m := by cases m; simp at hve y3; simp [hve, y3]
    rw [em] at q
    exact q.lw p.pd p.hx (fun k hk => by rw [someB hk]; exact p.hs) p.hs y4.lt p.mx.ne p.kx p.ks (fun k hk => by rw [someB hk]; exact p.ks) hsc hve hkey
theorem fresh_step {K : Nat → Prop} {B : Nat} {w0 w : World} {d x g gi r h : Nat} {ev : Value} {t : Tb} {most : Int} {v : Nat} (p : Pd K B w0 w d g gi r h ev t most v) (hx : B ≤ x) {goal : Nat} {uh key value : Int} (hm : Mc w x (.pointer none) d ⟨goal, uh, key, value, 0, 0, Tu.zero, 0, false⟩) (hne : ¬ cX d g gi r h ev x) (kx : ¬ K x) (ft : Fit t v) (hkey : ∀ n, Of t.es uh n → (nth t.es n).key ≠ key) :
    Calls Tryz.prog 10 #[.pointer (some ⟨x, 0, none⟩)] w fun e w' => ∃ u, e = .returned (tuV u) ∧ LwR K B w0 d x t most v ⟨goal, uh, key, value, v, 1, Tu.zero, 0, false⟩ (-1) u w' ∧ Kp K w w' := by
  refine (step_next p.dc mtOk_nil mvOk_nil (a := 0) (b := 0) trivial ft.made (by decide) (by decide) ft.turn ft.births ft.ver ⟨hm, hne, fun y => noneB y⟩ rfl (fun k y => (noneB y).elim) (Nat.zero_le _) (Nat.zero_le _) (.inl (.inl rfl))).mono ?_
  rintro e w' ⟨u, s', i, told, f', sc, rfl, hS, q⟩
  refine ⟨u, rfl, ?_⟩
  rcases hS with ⟨_, rfl, rfl, rfl, y, hf, _⟩ | ⟨⟨y, _⟩, _⟩
  · exact SoR.lw q p hx (fun k y => (noneB y).elim) (Nat.le_trans p.size y) hf hne kx (fun hk => by have := (p.kp s' hk).1; omega) (fun k y => (noneB y).elim) rfl rfl hkey
  · exact absurd rfl y
end Go.Proofs.YtejfmajbggmghaaGreat
namespace Go.Proofs.YtejfmajbggmghaaGreat
open Go.RowKit Go.WideShapes

def St8.push (S : St8) (q : Mp) : St8 := { S with nm := S.nm + 1, ms := updA S.ms S.nm q }
def St8.bare (S : St8) : St8 := { S with nm := 0 }
def mq0 (S : St8) (x y goal : Nat) (u k v : Int) : Mp := ⟨S.nd - 1, x, .pointer none, y, .pointer none, ⟨goal, u, k, v, 0, 0, Tu.zero, 0, false⟩, ⟨0, false, false, false, Tu.zero⟩⟩
/-- A machine more: it lies in x, the document's in y. -/
theorem P8.push {w w' : World} {X : Nat} {S : St8} {mv mr : Value} {M : Int → Int → World → Prop} {a b most : Int} {c : Nat} (hP : P8 w X S mv mr M a b most c) (hMo : MtOk mv M) (hnm : S.nm < 40) {x y n1 : Nat} {goal : Nat} (hg : 1 ≤ goal ∧ goal ≤ 4) {u k v : Int}
    (hb : Below w.heap.size w w') (hn : w.heap.size ≤ x ∧ x < n1 ∧ n1 ≤ y ∧ y < w'.heap.size)
    (hmc : Mc w' x (.pointer none) S.cur.d ⟨goal, u, k, v, 0, 0, Tu.zero, 0, false⟩) (hrm : Rm w' y (.pointer none) S.cur.d2 ⟨goal, u, k, v, 0, 0, Tu.zero, 0, false⟩ ⟨0, false, false, false, Tu.zero⟩) :
    P8 w' X (S.push (mq0 S x y goal u k v)) mv mr M a b most c ∧ ∀ i, (S.push (mq0 S x y goal u k v)).all X i → S.all X i ∨ w.heap.size ≤ i := by
  have hW := hP.below hMo hb
  obtain ⟨lab, sp⟩ := hP.sep
  have hsz := hb.size
  have hnd := hP.nd
  refine ⟨⟨hW.hx, hW.rm, hW.rn, hW.nd, hnm, hW.dk, ?_, hW.m, hW.ms, hW.ab, ?_⟩, ?_⟩
  · intro j hj
    show (updA S.ms S.nm _ j).k < S.nd ∧ Mk w' w' (S.ds (updA S.ms S.nm _ j).k) (updA S.ms S.nm _ j) c
    by_cases e : j = S.nm
    · rw [e, updA_at]
      exact ⟨by show S.nd - 1 < S.nd; omega, hmc, hrm, hg, Nat.zero_le _, Nat.zero_le _, .inl ⟨rfl, rfl, rfl⟩, .inl ⟨rfl, rfl, rfl, rfl⟩⟩
    · rw [updA_ne _ _ e]
      exact hW.mh j (by have : j < S.nm + 1 := hj; omega)
  · refine ⟨fun i => if i < w.heap.size then lab i else if i < n1 then 7 + 4 * S.nm else 8 + 4 * S.nm, ⟨?_, by have := sp.x.2; omega⟩, fun b hb => ?_, fun b hb => ?_, fun b hb => ?_, fun b hb => ?_, fun i hi b hb => ?_, fun i hi b hb => ?_, fun i hi b hb => ?_, fun i hi b hb => ?_⟩
    · show (if X < w.heap.size then lab X else _) = 0
      rw [if_pos sp.x.2]; exact sp.x.1
    · show (if b < w.heap.size then lab b else _) = 1 ∧ _
      have := sp.m b hb; rw [if_pos this.2]; exact ⟨this.1, by omega⟩
    · show (if b < w.heap.size then lab b else _) = 2 ∧ _
      have := sp.r b hb; rw [if_pos this.2]; exact ⟨this.1, by omega⟩
    · show (if b < w.heap.size then lab b else _) = 3 ∧ _
      have := sp.rm b hb; rw [if_pos this.2]; exact ⟨this.1, by omega⟩
    · show (if b < w.heap.size then lab b else _) = 4 ∧ _
      have := sp.rn b hb; rw [if_pos this.2]; exact ⟨this.1, by omega⟩
    · show (if b < w.heap.size then lab b else _) = 5 + 4 * i ∧ _
      have := sp.dp i hi b hb; rw [if_pos this.2]; exact ⟨this.1, by omega⟩
    · show (if b < w.heap.size then lab b else _) = 6 + 4 * i ∧ _
      have := sp.dr i hi b hb; rw [if_pos this.2]; exact ⟨this.1, by omega⟩
    · show (if b < w.heap.size then lab b else if b < n1 then 7 + 4 * S.nm else 8 + 4 * S.nm) = 7 + 4 * i ∧ _
      have hb' : (updA S.ms S.nm (mq0 S x y goal u k v) i).P b := hb
      by_cases e : i = S.nm
      · rw [e, updA_at] at hb'
        rcases hb' with z | z
        · have z' : b = x := z
          rw [if_neg (by omega), if_pos (by omega), e]; exact ⟨rfl, by omega⟩
        · cases z
      · rw [updA_ne _ _ e] at hb'
        have := sp.mp i (by have : i < S.nm + 1 := hi; omega) b hb'
        rw [if_pos this.2]; exact ⟨this.1, by omega⟩
    · show (if b < w.heap.size then lab b else if b < n1 then 7 + 4 * S.nm else 8 + 4 * S.nm) = 8 + 4 * i ∧ _
      have hb' : (updA S.ms S.nm (mq0 S x y goal u k v) i).R b := hb
      by_cases e : i = S.nm
      · rw [e, updA_at] at hb'
        rcases hb' with z | z
        · have z' : b = y := z
          rw [if_neg (by omega), if_neg (by omega), e]; exact ⟨rfl, by omega⟩
        · cases z
      · rw [updA_ne _ _ e] at hb'
        have := sp.mr i (by have : i < S.nm + 1 := hi; omega) b hb'
        rw [if_pos this.2]; exact ⟨this.1, by omega⟩
  · rintro b (rfl | z | z | z | ⟨i, hi, z⟩)
    · exact .inl (.inl rfl)
    · exact .inl (.inr (.inl z))
    · exact .inl (.inr (.inr (.inl z)))
    · exact .inl (.inr (.inr (.inr (.inl z))))
    · have z' : (updA S.ms S.nm (mq0 S x y goal u k v) i).P b ∨ (updA S.ms S.nm (mq0 S x y goal u k v) i).R b := z
      by_cases e : i = S.nm
      · rw [e, updA_at] at z'
        rcases z' with (z | z) | (z | z)
        · have z' : b = x := z
          exact .inr (by omega)
        · cases z
        · have z' : b = y := z
          exact .inr (by omega)
        · cases z
      · rw [updA_ne _ _ e] at z'
        exact .inl (.inr (.inr (.inr (.inr ⟨i, by have : i < S.nm + 1 := hi; omega, z'⟩))))
/-- No machine any more; what the dictionaries have done tells how far it has come. -/
theorem P8.bare {w : World} {X : Nat} {S : St8} {a b most : Int} {c : Nat} (hP : P8 w X S (.pointer none) (.pointer none) noM a b most c) {c1 : Nat} (hc : ∀ i, i < S.nd → Bp (S.ds i) c1) : P8 w X S.bare (.pointer none) (.pointer none) noM 0 0 most c1 := by
  obtain ⟨lab, sp⟩ := hP.sep
  exact ⟨hP.hx, hP.rm, hP.rn, hP.nd, Nat.zero_le _, fun i hi => ⟨(hP.dk i hi).dc, (hP.dk i hi).rc, hc i hi, (hP.dk i hi).born⟩, fun j hj => absurd hj (Nat.not_lt_zero _), trivial, .inl rfl, ⟨by omega, by omega, by omega, by omega⟩, lab, sp.x, sp.m, sp.r, sp.rm, sp.rn, sp.dp, sp.dr, fun j hj => absurd hj (Nat.not_lt_zero _), fun j hj => absurd hj (Nat.not_lt_zero _)⟩
theorem St8.bare_all {S : St8} {X i : Nat} (h : S.bare.all X i) : S.all X i := by
  rcases h with z | z | z | z | ⟨j, hj, _⟩
  · exact .inl z
  · exact .inr (.inl z)
  · exact .inr (.inr (.inl z))
  · exact .inr (.inr (.inr (.inl z)))
  · exact absurd hj (Nat.not_lt_zero _)
end Go.Proofs.YtejfmajbggmghaaGreat
