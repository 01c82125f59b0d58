/-
  goOn, walked.
-/
import Derived.Test.YtaoejpehodoacabGreatPrGo
namespace Go.Proofs.YtaoejpehodoacabGreat
open Go.RowKit Go.WideShapes

/-- What a miss tells, and what it makes of a dictionary. -/
def MsR (m : Ma) (t : Tb) (most : Int) (u : Tu) (P : Int → Nat → Tb → Prop) : Prop :=
  ((m.goal = 2 ∨ m.goal = 4) ∧ (t.live : Int) < most ∧ u = ⟨2, 0, false, m.value, (((t.add m.hash m.key m.value).es.length - 1 : Nat) : Int)⟩ ∧ P (((t.add m.hash m.key m.value).made - t.made : Nat) : Int) 1 (t.add m.hash m.key m.value)) ∨
  ((m.goal = 2 ∨ m.goal = 4) ∧ ¬ (t.live : Int) < most ∧ u = ⟨3, 0, false, 0, 0⟩ ∧ P 0 0 t) ∨
  (¬ (m.goal = 2 ∨ m.goal = 4) ∧ u = ⟨2, 0, false, 0, -1⟩ ∧ P 0 0 t)
theorem MsR.mono {m : Ma} {t : Tb} {most : Int} {u : Tu} {P Q : Int → Nat → Tb → Prop} (h : MsR m t most u P) (f : ∀ a v t', P a v t' → Q a v t') : MsR m t most u Q := by
  rcases h with ⟨h1, h2, h3, h4⟩ | ⟨h1, h2, h3, h4⟩ | ⟨h1, h2, h3⟩
  · exact .inl ⟨h1, h2, h3, f _ _ _ h4⟩
  · exact .inr (.inl ⟨h1, h2, h3, f _ _ _ h4⟩)
  · exact .inr (.inr ⟨h1, h2, f _ _ _ h3⟩)
theorem missF_any {w : World} {d g gi r h : Nat} {ev : Value} {t : Tb} {mv : Value} {M : Int → Int → World → Prop} {a b : Int} {most : Int} {v : Nat} (hC : Dc w d g gi r h ev t mv most v) (hMo : MtOk mv M) (hM : M a b w) (hm1 : t.made ≤ 1000000) (ha : 0 ≤ a ∧ a ≤ 1000000000) (ht : t.turn ≤ 1000000) (hb : t.births < 100000) (hv : v ≤ 1000000000) {x : Nat} {sv : Value} {m : Ma} (hm : Mx w d g gi r h ev mv x sv m) :
    Calls Tryz.prog (missF m.goal) #[.pointer (some ⟨x, 0, none⟩)] w fun e w' => ∃ u, e = .returned (tuV u) ∧ MsR m t most u (fun da dv t' => ∃ gi' r' h' ev', Cd w d g gi r h ev mv M (a + da) b most (v + dv) t' w' gi' r' h' ev') := by
  by_cases hg : m.goal = 2 ∨ m.goal = 4
  · rw [missF, if_pos hg]
    by_cases hf : (t.live : Int) < most
    · refine (addPair_yes hC hMo hM hm1 ha ht hb hv hm hf).mono ?_
      rintro e w' ⟨rfl, h2⟩
      exact ⟨_, rfl, .inl ⟨hg, hf, rfl, h2⟩⟩
    · refine (addPair_no hC hMo hM hm hf).mono ?_
      rintro e w' ⟨rfl, h2⟩
      exact ⟨_, rfl, .inr (.inl ⟨hg, hf, rfl, gi, r, h, ev, by rw [Int.add_zero]; exact h2⟩)⟩
  · rw [missF, if_neg hg]
    refine (tellNone_any _ w).mono ?_
    rintro e w' ⟨rfl, h2⟩
    exact ⟨_, rfl, .inr (.inr ⟨hg, rfl, gi, r, h, ev, by rw [Int.add_zero]; exact hC.cd hMo hM h2⟩)⟩
/-- What goOn tells and leaves, its Seeker at place i. -/
def GoR (w : World) (d g gi r h : Nat) (ev : Value) (t : Tb) (mv : Value) (M : Int → Int → World → Prop) (x : Nat) (sv : Value) (a b : Int) (most : Int) (v : Nat) (m1 : Ma) (s i : Nat) (told : Int) (f : Nat) (u : Tu) (w' : World) : Prop :=
  ∃ j, i ≤ j ∧ j ≤ f ∧
    ((∃ n : Nat, Of t.es m1.hash n ∧ told < (n : Int) ∧ (∀ k, Of t.es m1.hash k → told < (k : Int) → n ≤ k) ∧
        (((nth t.es n).key = m1.key ∧ u = ⟨2, 0, true, (nth t.es n).value, (n : Int)⟩ ∧ Cm w d g gi r h ev mv M x sv a (b + ((j + 1 - i : Nat) : Int)) most (hitN m1.goal v) (hitT m1 t n) w' gi r h ev ∧ Mc w' x (.pointer (some ⟨s, 0, none⟩)) d m1 ∧ Vi w' s (j + 1)) ∨
         ((nth t.es n).key ≠ m1.key ∧ u = ⟨1, (nth t.es n).key, false, 0, 0⟩ ∧ Cm w d g gi r h ev mv M x sv a (b + ((j + 1 - i : Nat) : Int)) most v t w' gi r h ev ∧ Mc w' x (.pointer (some ⟨s, 0, none⟩)) d { m1 with asked := (n : Int) } ∧ Sw w' d g gi r h ev t mv x s m1.hash (j + 1) (n : Int) f))) ∨
     (j = f ∧ (∀ n, Of t.es m1.hash n → (n : Int) ≤ told) ∧ MsR m1 t most u (fun da dv t' => ∃ gi' r' h' ev', Cm w d g gi r h ev mv M x sv (a + da) (b + ((j + 1 - i : Nat) : Int)) most (v + dv) t' w' gi' r' h' ev') ∧ Mc w' x (.pointer (some ⟨s, 0, none⟩)) d m1 ∧ Vi w' s (j + 1)))
/-- A result's five cells. -/
def rZ (j : Nat) : Value := #[Value.int .i64 0, .int .i64 0, .bool false, .int .i64 0, .int .i64 0].getD j .nilFunc
def putU (w : World) (R : Nat) (u : Tu) : World := put5 w R (.int .i64 u.kind) (.int .i64 u.key) (.bool u.found) (.int .i64 u.value) (.int .i64 u.entry)
theorem putU_below {B : Nat} {w : World} (R : Nat) (hR : B ≤ R) (u : Tu) : Below B w (putU w R u) := put5_below R hR _ _ _ _ _
theorem putU_other (w : World) (R : Nat) (u : Tu) (k : Nat) (hk : k ≠ R) : (putU w R u).heap[k]? = w.heap[k]? := by
  unfold putU put5
  rw [Below.heap_setCell _ _ _ _ hk, Below.heap_setCell _ _ _ _ hk, Below.heap_setCell _ _ _ _ hk, Below.heap_setCell _ _ _ _ hk, Below.heap_setCell _ _ _ _ hk]
/-- A call of the dictionary, and the turn laid into the result. -/
theorem A6.cmp {w w7 : World} {d g gi r h : Nat} {ev : Value} {t : Tb} {mv : Value} {M : Int → Int → World → Prop} {x : Nat} {sv : Value} {a b a' b' : Int} {most : Int} {v v' : Nat} {m1 : Ma} {s : Nat} {w6 : World} (hA : A6 w d g gi r h ev t mv M x sv a b most v m1 s w6) {t' : Tb} {gi' r' h' : Nat} {ev' : Value} (c : Cd w6 d g gi r h ev mv M a' b' most v' t' w7 gi' r' h' ev') (hMo : MtOk mv M) (hlt : ∀ k, cX d g gi r h ev k → k < w.heap.size) (hlm : ∀ k, mB mv k → k < w.heap.size) {R : Nat} (hR : w.heap.size ≤ R) (hR6 : R < w6.heap.size) (u : Tu) : Cm w d g gi r h ev mv M x sv a' b' most v' t' (putU w7 R u) gi' r' h' ev' := by
  have hbp : Below w.heap.size w7 (putU w7 R u) := putU_below R hR u
  have c' := hA.cm c
  refine ⟨c.dc.same fun k hk => putU_other w7 R u k (fun e => ?_), hMo.same _ _ _ _ c.m fun k hk => hbp.block k (hlm k hk), c'.fx, c'.ex.next (Y := fun k => w.heap.size ≤ k) ⟨hbp.os, hbp.tape, hbp.output, hbp.size, fun k _ hy => hbp.block k (by omega)⟩ (fun k hk hy => by omega)⟩
  rcases hk with hk | hk
  · have := hlt k (.inl hk); omega
  · rcases c.fx k hk with y | y
    · have := hlt k (.inr y); omega
    · omega
theorem MsR.any {m : Ma} {t : Tb} {most : Int} {u : Tu} {P : Int → Nat → Tb → Prop} (h : MsR m t most u P) : ∃ a v t', P a v t' := by
  rcases h with ⟨_, _, _, h⟩ | ⟨_, _, _, h⟩ | ⟨_, _, h⟩
  · exact ⟨_, _, _, h⟩
  · exact ⟨_, _, _, h⟩
  · exact ⟨_, _, _, h⟩
end Go.Proofs.YtaoejpehodoacabGreat
