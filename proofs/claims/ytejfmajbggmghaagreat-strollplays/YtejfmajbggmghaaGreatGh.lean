/-
  A machine goes on: goOn.
  goOn, walked.
-/
import Derived.Test.YtejfmajbggmghaaGreatGg
namespace Go.Proofs.YtejfmajbggmghaaGreat
open Go.RowKit Go.WideShapes

/-- What a machine's step leaves of its dictionary: all but that, its meter, the machine and its Seeker is as it was. -/
structure Cm (w : World) (d g gi r h : Nat) (ev : Value) (mv : Value) (M : Int → Int → World → Prop) (x : Nat) (sv : Value) (a b : Int) (most : Int) (v : Nat) (t' : Tb) (w' : World) (gi' r' h' : Nat) (ev' : Value) : Prop where
  dc : Dc w' d g gi' r' h' ev' t' mv most v
  m : M a b w'
  fx : ∀ j, dX g gi' r' h' ev' j → dX g gi r h ev j ∨ w.heap.size ≤ j
  ex : Ex (fun j => cX d g gi r h ev j ∨ mB mv j ∨ j = x ∨ mB sv j) w w'
/-- A Seeker under way, at place i. -/
structure Sw (w : World) (d g gi r h : Nat) (ev : Value) (t : Tb) (mv : Value) (x s : Nat) (u : Int) (i : Nat) (told : Int) (f : Nat) : Prop where
  sk : Sk w s (.pointer (some ⟨g, 0, none⟩)) t.turn u t.L i told i
  td : Told t.es t.L t.c u i told
  ff : IsF t.c (uw u) t.L f
  le : i ≤ f
  lt : f < 2 ^ t.L + 13
  ge : -1 ≤ told
  nc : ¬ cX d g gi r h ev s
  nm : ¬ mB mv s
  nx : s ≠ x
/-- Where goOn stands when it asks its Seeker. -/
structure A5 (w : World) (d g gi r h : Nat) (ev : Value) (t : Tb) (mv : Value) (M : Int → Int → World → Prop) (x : Nat) (sv : Value) (a b : Int) (most : Int) (v : Nat) (m1 : Ma) (s i : Nat) (told : Int) (f : Nat) (wS : World) : Prop where
  dc : Dc wS d g gi r h ev t mv most v
  m : M a b wS
  mx : Mc wS x (.pointer (some ⟨s, 0, none⟩)) d m1
  sw : Sw wS d g gi r h ev t mv x s m1.hash i told f
  sf : mB sv s ∨ w.heap.size ≤ s
  ex : Ex (fun k => k = x) w wS
/-- Behind Next. -/
structure A6 (w : World) (d g gi r h : Nat) (ev : Value) (t : Tb) (mv : Value) (M : Int → Int → World → Prop) (x : Nat) (sv : Value) (a b : Int) (most : Int) (v : Nat) (m1 : Ma) (s : Nat) (w6 : World) : Prop where
  dc : Dc w6 d g gi r h ev t mv most v
  m : M a b w6
  mx : Mc w6 x (.pointer (some ⟨s, 0, none⟩)) d m1
  ls : s < w6.heap.size
  sf : mB sv s ∨ w.heap.size ≤ s
  ex : Ex (fun k => mB mv k ∨ k = x ∨ mB sv k) w w6
/-- A Seeker that has visited so many cells. -/
def Vi (w : World) (s n : Nat) : Prop := ∃ tp turn u L i told, Sk w s tp turn u L i told n
theorem Vi.same {w w' : World} {s n : Nat} (h : Vi w s n) (e : w'.heap[s]? = w.heap[s]?) : Vi w' s n := by
  obtain ⟨tp, turn, u, L, i, told, h⟩ := h
  exact ⟨tp, turn, u, L, i, told, Blk.same h e⟩
theorem A5.next {w : World} {d g gi r h : Nat} {ev : Value} {t : Tb} {mv : Value} {M : Int → Int → World → Prop} {x : Nat} {sv : Value} {a b : Int} {most : Int} {v : Nat} {m1 : Ma} {s i : Nat} {told : Int} {f : Nat} {wS : World} (hA : A5 w d g gi r h ev t mv M x sv a b most v m1 s i told f wS) (hMo : MtOk mv M) (hMv : MvOk mv M) (hb : 0 ≤ b ∧ b ≤ 100000000000) (nx : ¬ cX d g gi r h ev x) (nmx : ¬ mB mv x) :
    Calls Tryz.prog 59 #[.pointer (some ⟨s, 0, none⟩)] wS fun e w6 => ∃ j, i ≤ j ∧ j ≤ f ∧ A6 w d g gi r h ev t mv M x sv a (b + ((j + 1 - i : Nat) : Int)) most v m1 s w6 ∧ Ex (fun k => k = s ∨ mB mv k) wS w6 ∧ (Vi w6 s (j + 1) ∧ ¬ cX d g gi r h ev s ∧ ¬ mB mv s) ∧
      ((∃ n : Nat, e = .returned (.tuple #[.int .i64 (n : Int), .bool true]) ∧ Of t.es m1.hash n ∧ told < (n : Int) ∧ ((∀ k, Of t.es m1.hash k → told < (k : Int) → n ≤ k) ∧ t.c (trl (uw m1.hash) t.L j) = (n : Int) ∧ Told t.es t.L t.c m1.hash j told) ∧ Sw w6 d g gi r h ev t mv x s m1.hash (j + 1) (n : Int) f) ∨
       (e = .returned (.tuple #[.int .i64 (-1), .bool false]) ∧ j = f ∧ (∀ n, Of t.es m1.hash n → (n : Int) ≤ told))) := by
  have hP : 2 ^ t.L ≤ 1048576 := Nat.le_trans (Nat.pow_le_pow_right (n := 2) (by decide) hA.dc.ok.sz.2) (by decide)
  have hlen : t.es.length ≤ 100000 := Nat.le_trans hA.dc.ok.few hA.dc.ok.all
  have nds : ¬ dX g gi r h ev s := fun h => hA.sw.nc (.inr h)
  have hlt := hA.sw.lt
  have hle := hA.sw.le
  have key : ∀ w6, Ex (fun k => k = s ∨ mB mv k) wS w6 → ∀ b', M a b' w6 → A6 w d g gi r h ev t mv M x sv a b' most v m1 s w6 := fun w6 hx b' hm => by
    have lx := hA.mx.lt (by omega)
    refine ⟨hA.dc.same fun k hk => hx.block k (hA.dc.lt k hk) (fun hy => ?_), hm, hA.mx.same (hx.block x lx (fun hy => hy.elim (fun e => hA.sw.nx e.symm) nmx)), Nat.lt_of_lt_of_le (hA.sw.sk.lt (by omega)) hx.size, hA.sf, ?_⟩
    · rcases hy with rfl | hy
      · exact hA.sw.nc hk
      · rcases hk with rfl | hk
        · exact hA.dc.nm hy
        · obtain ⟨m1', m2, m3, m4, m5⟩ := hA.dc.dt.mp k hy
          rcases hk with y | y | y | y | y
          · exact m1' y
          · exact m2 y
          · exact m3 y
          · exact m4 y
          · exact m5 y
    · refine (hA.ex.mono (fun k _ e => .inr (.inl e))).next hx (fun k hk hy => ?_)
      rcases hy with rfl | hy
      · exact hA.sf.elim (fun y => .inr (.inr y)) (fun y => by omega)
      · exact .inl hy
  refine (next7_any hA.dc.dt hA.dc.ok.inv hMo hMv hA.m hb hA.sw.sk nds hA.sw.nm (by omega) hA.sw.td hA.sw.ff hA.sw.lt hA.sw.le hA.sw.ge hlen).mono ?_
  rintro e w6 ⟨j, h1, h2, hcs⟩
  have vi : ∀ {tp : Value} {told' : Int}, Sk w6 s tp t.turn m1.hash t.L (j + 1) told' (i + (j + 1 - i)) → Sk w6 s tp t.turn m1.hash t.L (j + 1) told' (j + 1) := fun hk => by
    rw [show i + (j + 1 - i) = j + 1 by omega] at hk
    exact hk
  rcases hcs with (⟨n, rfl, o1, l1, c1, a1, b1, m1', hN⟩ | ⟨rfl, rfl, hall, hN⟩)
  · refine ⟨j, h1, h2, key w6 hN.ex _ hN.m, hN.ex, ⟨⟨_, _, _, _, _, _, vi hN.sk⟩, hA.sw.nc, hA.sw.nm⟩, .inl ⟨n, rfl, o1, l1, ⟨m1', c1, a1⟩, ?_⟩⟩
    have hjlt : j < f := by
      rcases Nat.lt_or_ge j f with z | z
      · exact z
      · have : j = f := by omega
        rw [this, hA.sw.ff.1] at c1
        omega
    have hk := hN.sk
    rw [show i + (j + 1 - i) = j + 1 by omega] at hk
    exact ⟨hk, b1, hA.sw.ff, hjlt, hA.sw.lt, by omega, hA.sw.nc, hA.sw.nm, hA.sw.nx⟩
  · exact ⟨j, h1, h2, key w6 hN.ex _ hN.m, hN.ex, ⟨⟨_, _, _, _, _, _, vi hN.sk⟩, hA.sw.nc, hA.sw.nm⟩, .inr ⟨rfl, rfl, hall⟩⟩
/-- A call of the dictionary behind that. -/
theorem A6.cm {w w' : World} {d g gi r h : Nat} {ev : Value} {t : Tb} {mv : Value} {M : Int → Int → World → Prop} {x : Nat} {sv : Value} {a b a' b' : Int} {most : Int} {v v' : Nat} {m1 : Ma} {s : Nat} {w6 : World} (hA : A6 w d g gi r h ev t mv M x sv a b most v m1 s w6) {t' : Tb} {gi' r' h' : Nat} {ev' : Value} (c : Cd w6 d g gi r h ev mv M a' b' most v' t' w' gi' r' h' ev') : Cm w d g gi r h ev mv M x sv a' b' most v' t' w' gi' r' h' ev' :=
  ⟨c.dc, c.m, fun j hj => (c.fx j hj).elim .inl (fun y => .inr (Nat.le_trans hA.ex.size y)), (hA.ex.mono (fun _ _ hk => .inr hk)).next c.ex (fun _ _ hk => hk.elim .inl (fun y => .inr (.inl y)))⟩
end Go.Proofs.YtejfmajbggmghaaGreat
namespace Go.Proofs.YtejfmajbggmghaaGreat
open Go.RowKit Go.WideShapes

/-- What a miss tells, and what it makes of a dictionary. -/
def MsR (m : Ma) (t : Tb) (most : Int) (u : Tu) (P : Int → Nat → Tb → Prop) : Prop :=
  ((m.goal = 2 ∨ m.goal = 4) ∧ (t.live : Int) < most ∧ u = ⟨2, 0, false, m.value, (((t.add m.hash m.key m.value).es.length - 1 : Nat) : Int)⟩ ∧ P (((t.add m.hash m.key m.value).made - t.made : Nat) : Int) 1 (t.add m.hash m.key m.value)) ∨
  ((m.goal = 2 ∨ m.goal = 4) ∧ ¬ (t.live : Int) < most ∧ u = ⟨3, 0, false, 0, 0⟩ ∧ P 0 0 t) ∨
  (¬ (m.goal = 2 ∨ m.goal = 4) ∧ u = ⟨2, 0, false, 0, -1⟩ ∧ P 0 0 t)
theorem MsR.mono {m : Ma} {t : Tb} {most : Int} {u : Tu} {P Q : Int → Nat → Tb → Prop} (h : MsR m t most u P) (f : ∀ a v t', P a v t' → Q a v t') : MsR m t most u Q := by
  rcases h with ⟨h1, h2, h3, h4⟩ | ⟨h1, h2, h3, h4⟩ | ⟨h1, h2, h3⟩
  · exact .inl ⟨h1, h2, h3, f _ _ _ h4⟩
  · exact .inr (.inl ⟨h1, h2, h3, f _ _ _ h4⟩)
  · exact .inr (.inr ⟨h1, h2, f _ _ _ h3⟩)
theorem missF_any {w : World} {d g gi r h : Nat} {ev : Value} {t : Tb} {mv : Value} {M : Int → Int → World → Prop} {a b : Int} {most : Int} {v : Nat} (hC : Dc w d g gi r h ev t mv most v) (hMo : MtOk mv M) (hM : M a b w) (hm1 : t.made ≤ 1000000) (ha : 0 ≤ a ∧ a ≤ 1000000000) (ht : t.turn ≤ 1000000) (hb : t.births < 100000) (hv : v ≤ 1000000000) {x : Nat} {sv : Value} {m : Ma} (hm : Mx w d g gi r h ev mv x sv m) :
    Calls Tryz.prog (missF m.goal) #[.pointer (some ⟨x, 0, none⟩)] w fun e w' => ∃ u, e = .returned (tuV u) ∧ MsR m t most u (fun da dv t' => ∃ gi' r' h' ev', Cd w d g gi r h ev mv M (a + da) b most (v + dv) t' w' gi' r' h' ev') := by
  by_cases hg : m.goal = 2 ∨ m.goal = 4
  · rw [missF, if_pos hg]
    by_cases hf : (t.live : Int) < most
    · refine (addPair_yes hC hMo hM hm1 ha ht hb hv hm hf).mono ?_
      rintro e w' ⟨rfl, h2⟩
      exact ⟨_, rfl, .inl ⟨hg, hf, rfl, h2⟩⟩
    · refine (addPair_no hC hMo hM hm hf).mono ?_
      rintro e w' ⟨rfl, h2⟩
      exact ⟨_, rfl, .inr (.inl ⟨hg, hf, rfl, gi, r, h, ev, by rw [Int.add_zero]; exact h2⟩)⟩
  · rw [missF, if_neg hg]
    refine (tellNone_any _ w).mono ?_
    rintro e w' ⟨rfl, h2⟩
    exact ⟨_, rfl, .inr (.inr ⟨hg, rfl, gi, r, h, ev, by rw [Int.add_zero]; exact hC.cd hMo hM h2⟩)⟩
/-- What goOn tells and leaves, its Seeker at place i. -/
def GoR (w : World) (d g gi r h : Nat) (ev : Value) (t : Tb) (mv : Value) (M : Int → Int → World → Prop) (x : Nat) (sv : Value) (a b : Int) (most : Int) (v : Nat) (m1 : Ma) (s i : Nat) (told : Int) (f : Nat) (u : Tu) (w' : World) : Prop :=
  ∃ j, i ≤ j ∧ j ≤ f ∧
    ((∃ n : Nat, Of t.es m1.hash n ∧ told < (n : Int) ∧ ((∀ k, Of t.es m1.hash k → told < (k : Int) → n ≤ k) ∧ t.c (trl (uw m1.hash) t.L j) = (n : Int) ∧ Told t.es t.L t.c m1.hash j told) ∧
        (((nth t.es n).key = m1.key ∧ u = ⟨2, 0, true, (nth t.es n).value, (n : Int)⟩ ∧ Cm w d g gi r h ev mv M x sv a (b + ((j + 1 - i : Nat) : Int)) most (hitN m1.goal v) (hitT m1 t n) w' gi r h ev ∧ Mc w' x (.pointer (some ⟨s, 0, none⟩)) d m1 ∧ Vi w' s (j + 1)) ∨
         ((nth t.es n).key ≠ m1.key ∧ u = ⟨1, (nth t.es n).key, false, 0, 0⟩ ∧ Cm w d g gi r h ev mv M x sv a (b + ((j + 1 - i : Nat) : Int)) most v t w' gi r h ev ∧ Mc w' x (.pointer (some ⟨s, 0, none⟩)) d { m1 with asked := (n : Int) } ∧ Sw w' d g gi r h ev t mv x s m1.hash (j + 1) (n : Int) f))) ∨
     (j = f ∧ (∀ n, Of t.es m1.hash n → (n : Int) ≤ told) ∧ MsR m1 t most u (fun da dv t' => ∃ gi' r' h' ev', Cm w d g gi r h ev mv M x sv (a + da) (b + ((j + 1 - i : Nat) : Int)) most (v + dv) t' w' gi' r' h' ev' ∧ ¬ cX d g gi' r' h' ev' s) ∧ Mc w' x (.pointer (some ⟨s, 0, none⟩)) d m1 ∧ Vi w' s (j + 1)))
/-- A result's five cells. -/
def rZ (j : Nat) : Value := #[Value.int .i64 0, .int .i64 0, .bool false, .int .i64 0, .int .i64 0].getD j .nilFunc
def putU (w : World) (R : Nat) (u : Tu) : World := put5 w R (.int .i64 u.kind) (.int .i64 u.key) (.bool u.found) (.int .i64 u.value) (.int .i64 u.entry)
theorem putU_below {B : Nat} {w : World} (R : Nat) (hR : B ≤ R) (u : Tu) : Below B w (putU w R u) := put5_below R hR _ _ _ _ _
theorem putU_other (w : World) (R : Nat) (u : Tu) (k : Nat) (hk : k ≠ R) : (putU w R u).heap[k]? = w.heap[k]? := by
  unfold putU put5
  rw [Below.heap_setCell _ _ _ _ hk, Below.heap_setCell _ _ _ _ hk, Below.heap_setCell _ _ _ _ hk, Below.heap_setCell _ _ _ _ hk, Below.heap_setCell _ _ _ _ hk]
/-- A call of the dictionary, and the turn laid into the result. -/
theorem A6.cmp {w w7 : World} {d g gi r h : Nat} {ev : Value} {t : Tb} {mv : Value} {M : Int → Int → World → Prop} {x : Nat} {sv : Value} {a b a' b' : Int} {most : Int} {v v' : Nat} {m1 : Ma} {s : Nat} {w6 : World} (hA : A6 w d g gi r h ev t mv M x sv a b most v m1 s w6) {t' : Tb} {gi' r' h' : Nat} {ev' : Value} (c : Cd w6 d g gi r h ev mv M a' b' most v' t' w7 gi' r' h' ev') (hMo : MtOk mv M) (hlt : ∀ k, cX d g gi r h ev k → k < w.heap.size) (hlm : ∀ k, mB mv k → k < w.heap.size) {R : Nat} (hR : w.heap.size ≤ R) (hR6 : R < w6.heap.size) (u : Tu) : Cm w d g gi r h ev mv M x sv a' b' most v' t' (putU w7 R u) gi' r' h' ev' := by
  have hbp : Below w.heap.size w7 (putU w7 R u) := putU_below R hR u
  have c' := hA.cm c
  refine ⟨c.dc.same fun k hk => putU_other w7 R u k (fun e => ?_), hMo.same _ _ _ _ c.m fun k hk => hbp.block k (hlm k hk), c'.fx, c'.ex.next (Y := fun k => w.heap.size ≤ k) ⟨hbp.os, hbp.tape, hbp.output, hbp.size, fun k _ hy => hbp.block k (by omega)⟩ (fun k hk hy => by omega)⟩
  rcases hk with hk | hk
  · have := hlt k (.inl hk); omega
  · rcases c.fx k hk with y | y
    · have := hlt k (.inr y); omega
    · omega
theorem MsR.any {m : Ma} {t : Tb} {most : Int} {u : Tu} {P : Int → Nat → Tb → Prop} (h : MsR m t most u P) : ∃ a v t', P a v t' := by
  rcases h with ⟨_, _, _, h⟩ | ⟨_, _, _, h⟩ | ⟨_, _, h⟩
  · exact ⟨_, _, _, h⟩
  · exact ⟨_, _, _, h⟩
  · exact ⟨_, _, _, h⟩
end Go.Proofs.YtejfmajbggmghaaGreat
