/-
  What a step tells, whether the key is there or not.
-/
import Derived.Test.YtooneobnfepncaaGreatPrl
namespace Go.Proofs.YtooneobnfepncaaGreat
open Go.RowKit Go.WideShapes

/-- A machine in its first scan. -/
def m1 (goal : Nat) (uh key value : Int) (v : Nat) (u : Tu) (asked : Int) : Ma := ⟨goal, uh, key, value, v, 1, u, asked, false⟩
/-- What a step of a machine tells in its first scan. -/
def LwQ (K : Nat → Prop) (B : Nat) (w0 : World) (d x : Nat) (t : Tb) (most : Int) (v : Nat) (goal : Nat) (uh key value : Int) (told : Int) (u : Tu) (w' : World) : Prop :=
  (∃ n : Nat, Of t.es uh n ∧ told < (n : Int) ∧ (∀ k, Of t.es uh k → told < (k : Int) → n ≤ k) ∧
    (((nth t.es n).key = key ∧ u = ⟨2, 0, true, (nth t.es n).value, (n : Int)⟩ ∧ ∃ g gi r h ev, Pd K B w0 w' d g gi r h ev (hitT (m1 goal uh key value v Tu.zero 0) t n) most (hitN goal v)) ∨
     ((nth t.es n).key ≠ key ∧ u = ⟨1, (nth t.es n).key, false, 0, 0⟩ ∧ ∃ g gi r h ev s j f, Aw K B w0 w' d x t most v (m1 goal uh key value v u (n : Int)) n g gi r h ev s j f))) ∨
  ((∀ n, Of t.es uh n → (n : Int) ≤ told) ∧ MsR (m1 goal uh key value v Tu.zero 0) t most u (fun _ dv t' => ∃ g gi' r' h' ev', Pd K B w0 w' d g gi' r' h' ev' t' most (v + dv)))
theorem SoR.lq {K : Nat → Prop} {B : Nat} {w0 w : World} {d g gi r h : Nat} {ev : Value} {t : Tb} {x : Nat} {sv : Value} {most : Int} {v : Nat} {goal : Nat} {uh key value asked : Int} {s i : Nat} {told : Int} {f : Nat} {u : Tu} {w' : World} (q : SoR w d g gi r h ev t (.pointer none) noM x sv 0 0 most v (m1 goal uh key value v Tu.zero asked) s i told f u w') (p : Pd K B w0 w d g gi r h ev t most v) (hx : B ≤ x) (hsv : ∀ k, mB sv k → B ≤ k) (hs : B ≤ s) (hne : ¬ cX d g gi r h ev x) (kx : ¬ K x) (ks : ¬ K s) (ksv : ∀ k, mB sv k → ¬ K k) : LwQ K B w0 d x t most v goal uh key value told u w' ∧ Kp K w w' := by
  obtain ⟨j, _, h2, (⟨n, h3, h4, h5, (⟨h6, h7, h8, h9, h10⟩ | ⟨h6, h7, h8, h9, h10⟩)⟩ | ⟨h3, h4, h5, h6, h7⟩)⟩ := q
  · exact ⟨.inl ⟨n, h3, h4, h5, .inl ⟨h6, h7, g, gi, r, h, ev, p.cm hx hsv h8⟩⟩, p.cmk kx ksv h8⟩
  · exact ⟨.inl ⟨n, h3, h4, h5, .inr ⟨h6, h7, g, gi, r, h, ev, s, _, f, p.cm hx hsv h8, hx, hs, ⟨h9, hne, fun y => noneB y⟩, h10, h3, rfl, rfl, rfl, kx, ks⟩⟩, p.cmk kx ksv h8⟩
  · have h5' : MsR (m1 goal uh key value v Tu.zero asked) t most u (fun _ dv t' => ∃ g gi' r' h' ev', Pd K B w0 w' d g gi' r' h' ev' t' most (v + dv)) := h5.mono (fun _ _ _ ⟨gi', r', h', ev', c⟩ => ⟨g, gi', r', h', ev', p.cm hx hsv c⟩)
    refine ⟨.inr ⟨h4, by unfold MsR m1 at h5' ⊢; exact h5'⟩, ?_⟩
    obtain ⟨_, _, _, _, _, _, _, c⟩ := h5.any
    exact p.cmk kx ksv c
/-- A machine that can go on: it has not begun (told is -1), or was told that told's key is another one. -/
def Rdy (K : Nat → Prop) (B : Nat) (w0 w : World) (d x : Nat) (t : Tb) (most : Int) (v : Nat) (goal : Nat) (uh key value : Int) (told : Int) : Prop :=
  (told = -1 ∧ B ≤ x ∧ ¬ K x ∧ ∃ g gi r h ev, Pd K B w0 w d g gi r h ev t most v ∧ ¬ cX d g gi r h ev x ∧ Mc w x (.pointer none) d ⟨goal, uh, key, value, 0, 0, Tu.zero, 0, false⟩) ∨
  (∃ (q : Nat) (g gi r h : Nat) (ev : Value) (s j f : Nat), told = (q : Int) ∧ Aw K B w0 w d x t most v (m1 goal uh key value v Tu.zero (q : Int)) q g gi r h ev s j f)
theorem rd_step {K : Nat → Prop} {B : Nat} {w0 w : World} {d x : Nat} {t : Tb} {most : Int} {v : Nat} {goal : Nat} {uh key value told : Int} (p : Rdy K B w0 w d x t most v goal uh key value told) (ft : Fit t v) :
    Calls Tryz.prog 21 #[.pointer (some ⟨x, 0, none⟩)] w fun e w' => ∃ u, e = .returned (tuV u) ∧ LwQ K B w0 d x t most v goal uh key value told u w' ∧ Kp K w w' := by
  rcases p with ⟨rfl, hx, kx, g, gi, r, h, ev, p, hne, hm⟩ | ⟨n, g, gi, r, h, ev, s, j, f, rfl, p⟩
  · refine (step_next p.dc mtOk_nil mvOk_nil (a := 0) (b := 0) trivial ft.made (by decide) (by decide) ft.turn ft.births ft.ver ⟨hm, hne, fun y => noneB y⟩ rfl (fun k y => (noneB y).elim) (Nat.zero_le _) (Nat.zero_le _) (.inl (.inl rfl))).mono ?_
    rintro e w' ⟨u, s', i, told, f', sc, rfl, hS, q⟩
    refine ⟨u, rfl, ?_⟩
    rcases hS with ⟨_, rfl, rfl, rfl, y, hf⟩ | ⟨⟨y, _⟩, _⟩
    · exact SoR.lq (asked := 0) q p hx (fun k y => (noneB y).elim) (Nat.le_trans p.size y) hne kx (fun hk => by have := (p.kp s' hk).1; omega) (fun k y => (noneB y).elim)
    · exact absurd rfl y
  · have hsv : ∀ k, mB (.pointer (some ⟨s, 0, none⟩)) k → k < w.heap.size := fun k hk => by rw [someB hk]; exact p.sw.sk.lt (by omega)
    refine (step_next p.pd.dc mtOk_nil mvOk_nil (a := 0) (b := 0) trivial ft.made (by decide) (by decide) ft.turn ft.births ft.ver p.mx rfl hsv (by rw [p.scans]; decide) (by rw [p.ver]; exact ft.ver) (.inr ⟨by rw [p.scans]; decide, p.ver, rfl, s, j, _, f, rfl, p.sw⟩)).mono ?_
    rintro e w' ⟨u, s', i, told, f', sc, rfl, hS, q⟩
    refine ⟨u, rfl, ?_⟩
    rcases hS with ⟨y, _⟩ | ⟨_, y2, y3, y4⟩
    · rcases y with y | y
      · exact absurd y (by show ¬ ((1 : Nat) = 0); decide)
      · exact absurd rfl y
    · have e1 : s' = s := by cases y2; rfl
      subst e1
      have e2 : told = (n : Int) := by
        have h1 := p.sw.sk.c 6 (by omega)
        have h2 := y4.sk.c 6 (by omega)
        rw [h1] at h2
        injection h2 with h2
        injection h2 with _ h2
        exact h2.symm
      subst e2
      have em : ({ m1 goal uh key value v Tu.zero (n : Int) with ver := v, scans := sc } : Ma) = m1 goal uh key value v Tu.zero (n : Int) := by
        have y3' : sc = 1 := by first | exact y3 | exact y3.symm
        rw [y3']
        rfl
      rw [em] at q
      exact q.lq p.pd p.hx (fun k hk => by rw [someB hk]; exact p.hs) p.hs p.mx.ne p.kx p.ks (fun k hk => by rw [someB hk]; exact p.ks)
/-- A machine that has asked is told that it is another one: it can go on. -/
theorem rd_tell {K : Nat → Prop} {B : Nat} {w0 w : World} {d x : Nat} {t : Tb} {most : Int} {v : Nat} {goal : Nat} {uh key value ky : Int} {n g gi r h : Nat} {ev : Value} {s j f : Nat} (p : Aw K B w0 w d x t most v (m1 goal uh key value v ⟨1, ky, false, 0, 0⟩ (n : Int)) n g gi r h ev s j f) :
    Calls Tryz.prog 22 #[.pointer (some ⟨x, 0, none⟩), .bool false] w fun e w' => e = .returned (.int .i64 0) ∧ Rdy K B w0 w' d x t most v goal uh key value (n : Int) ∧ Kp K w w' :=
  (aw_tell p rfl false).mono fun _ _ ⟨h1, h2, h3⟩ => ⟨h1, .inr ⟨n, g, gi, r, h, ev, s, j, f, rfl, h2⟩, h3⟩
theorem Kp.trans {K : Nat → Prop} {a b c : World} (x : Kp K a b) (y : Kp K b c) : Kp K a c := fun k hk => (y k hk).trans (x k hk)
theorem Kp.refl (K : Nat → Prop) (a : World) : Kp K a a := fun _ _ => rfl
theorem Rdy.pd {K : Nat → Prop} {B : Nat} {w0 w : World} {d x : Nat} {t : Tb} {most : Int} {v : Nat} {goal : Nat} {uh key value told : Int} (p : Rdy K B w0 w d x t most v goal uh key value told) : ∃ g gi r h ev, Pd K B w0 w d g gi r h ev t most v := by
  rcases p with ⟨_, _, _, g, gi, r, h, ev, p, _, _⟩ | ⟨n, g, gi, r, h, ev, s, j, f, _, p⟩
  · exact ⟨g, gi, r, h, ev, p⟩
  · exact ⟨g, gi, r, h, ev, p.pd⟩
theorem Rdy.below {K : Nat → Prop} {B : Nat} {w0 w w' : World} {d x : Nat} {t : Tb} {most : Int} {v : Nat} {goal : Nat} {uh key value told : Int} (p : Rdy K B w0 w d x t most v goal uh key value told) (hb : Below w.heap.size w w') : Rdy K B w0 w' d x t most v goal uh key value told := by
  rcases p with ⟨a, b, c, g, gi, r, h, ev, p, q, m⟩ | ⟨n, g, gi, r, h, ev, s, j, f, a, p⟩
  · exact .inl ⟨a, b, c, g, gi, r, h, ev, p.below hb, q, m.of hb (by omega)⟩
  · exact .inr ⟨n, g, gi, r, h, ev, s, j, f, a, p.below hb⟩
/-- A machine that was begun can go on. -/
theorem rd_begin {K : Nat → Prop} {B : Nat} {w0 w : World} {d g gi r h : Nat} {ev : Value} {t : Tb} {most : Int} {v : Nat} (p : Pd K B w0 w d g gi r h ev t most v) (goal : Nat) (hg1 : 1 ≤ goal) (hg4 : goal ≤ 4) (u k x : Int) :
    Calls Tryz.prog 14 #[.pointer (some ⟨d, 0, none⟩), .int .i64 (goal : Int), .int .i64 u, .int .i64 k, .int .i64 x] w fun e w' => ∃ b, e = .returned (.pointer (some ⟨b, 0, none⟩)) ∧ Rdy K B w0 w' d b t most v goal u k x (-1) ∧ Kp K w w' := by
  refine (lw_begin p goal hg1 hg4 u k x).mono ?_
  rintro e w' ⟨b, h1, h2, h3, h4, h5, h6, h7⟩
  exact ⟨b, h1, .inl ⟨rfl, h2, h3, g, gi, r, h, ev, h6, h4, h5⟩, h7⟩
end Go.Proofs.YtooneobnfepncaaGreat
