/-
  A machine goes on: goOn.
-/
import Derived.Test.YtaoejpehodoacabGreatPrScan
namespace Go.Proofs.YtaoejpehodoacabGreat
open Go.RowKit Go.WideShapes

/-- What a machine's step leaves of its dictionary: all but that, its meter, the machine and its Seeker is as it was. -/
structure Cm (w : World) (d g gi r h : Nat) (ev : Value) (mv : Value) (M : Int → Int → World → Prop) (x : Nat) (sv : Value) (a b : Int) (most : Int) (v : Nat) (t' : Tb) (w' : World) (gi' r' h' : Nat) (ev' : Value) : Prop where
  dc : Dc w' d g gi' r' h' ev' t' mv most v
  m : M a b w'
  fx : ∀ j, dX g gi' r' h' ev' j → dX g gi r h ev j ∨ w.heap.size ≤ j
  ex : Ex (fun j => cX d g gi r h ev j ∨ mB mv j ∨ j = x ∨ mB sv j) w w'
/-- A Seeker under way, at place i. -/
structure Sw (w : World) (d g gi r h : Nat) (ev : Value) (t : Tb) (mv : Value) (x s : Nat) (u : Int) (i : Nat) (told : Int) (f : Nat) : Prop where
  sk : Sk w s (.pointer (some ⟨g, 0, none⟩)) t.turn u t.L i told i
  td : Told t.es t.L t.c u i told
  ff : IsF t.c (uw u) t.L f
  le : i ≤ f
  lt : f < 2 ^ t.L + 13
  ge : -1 ≤ told
  nc : ¬ cX d g gi r h ev s
  nm : ¬ mB mv s
  nx : s ≠ x
/-- Where goOn stands when it asks its Seeker. -/
structure A5 (w : World) (d g gi r h : Nat) (ev : Value) (t : Tb) (mv : Value) (M : Int → Int → World → Prop) (x : Nat) (sv : Value) (a b : Int) (most : Int) (v : Nat) (m1 : Ma) (s i : Nat) (told : Int) (f : Nat) (wS : World) : Prop where
  dc : Dc wS d g gi r h ev t mv most v
  m : M a b wS
  mx : Mc wS x (.pointer (some ⟨s, 0, none⟩)) d m1
  sw : Sw wS d g gi r h ev t mv x s m1.hash i told f
  sf : mB sv s ∨ w.heap.size ≤ s
  ex : Ex (fun k => k = x) w wS
/-- Behind Next. -/
structure A6 (w : World) (d g gi r h : Nat) (ev : Value) (t : Tb) (mv : Value) (M : Int → Int → World → Prop) (x : Nat) (sv : Value) (a b : Int) (most : Int) (v : Nat) (m1 : Ma) (s : Nat) (w6 : World) : Prop where
  dc : Dc w6 d g gi r h ev t mv most v
  m : M a b w6
  mx : Mc w6 x (.pointer (some ⟨s, 0, none⟩)) d m1
  ls : s < w6.heap.size
  sf : mB sv s ∨ w.heap.size ≤ s
  ex : Ex (fun k => mB mv k ∨ k = x ∨ mB sv k) w w6
/-- A Seeker that has visited so many cells. -/
def Vi (w : World) (s n : Nat) : Prop := ∃ tp turn u L i told, Sk w s tp turn u L i told n
theorem Vi.same {w w' : World} {s n : Nat} (h : Vi w s n) (e : w'.heap[s]? = w.heap[s]?) : Vi w' s n := by
  obtain ⟨tp, turn, u, L, i, told, h⟩ := h
  exact ⟨tp, turn, u, L, i, told, Blk.same h e⟩
theorem A5.next {w : World} {d g gi r h : Nat} {ev : Value} {t : Tb} {mv : Value} {M : Int → Int → World → Prop} {x : Nat} {sv : Value} {a b : Int} {most : Int} {v : Nat} {m1 : Ma} {s i : Nat} {told : Int} {f : Nat} {wS : World} (hA : A5 w d g gi r h ev t mv M x sv a b most v m1 s i told f wS) (hMo : MtOk mv M) (hMv : MvOk mv M) (hb : 0 ≤ b ∧ b ≤ 100000000000) (nx : ¬ cX d g gi r h ev x) (nmx : ¬ mB mv x) :
    Calls Tryz.prog 32 #[.pointer (some ⟨s, 0, none⟩)] wS fun e w6 => ∃ j, i ≤ j ∧ j ≤ f ∧ A6 w d g gi r h ev t mv M x sv a (b + ((j + 1 - i : Nat) : Int)) most v m1 s w6 ∧ Ex (fun k => k = s ∨ mB mv k) wS w6 ∧ (Vi w6 s (j + 1) ∧ ¬ cX d g gi r h ev s ∧ ¬ mB mv s) ∧
      ((∃ n : Nat, e = .returned (.tuple #[.int .i64 (n : Int), .bool true]) ∧ Of t.es m1.hash n ∧ told < (n : Int) ∧ (∀ k, Of t.es m1.hash k → told < (k : Int) → n ≤ k) ∧ Sw w6 d g gi r h ev t mv x s m1.hash (j + 1) (n : Int) f) ∨
       (e = .returned (.tuple #[.int .i64 (-1), .bool false]) ∧ j = f ∧ (∀ n, Of t.es m1.hash n → (n : Int) ≤ told))) := by
  have hP : 2 ^ t.L ≤ 1048576 := Nat.le_trans (Nat.pow_le_pow_right (n := 2) (by decide) hA.dc.ok.sz.2) (by decide)
  have hlen : t.es.length ≤ 100000 := Nat.le_trans hA.dc.ok.few hA.dc.ok.all
  have nds : ¬ dX g gi r h ev s := fun h => hA.sw.nc (.inr h)
  have hlt := hA.sw.lt
  have hle := hA.sw.le
  have key : ∀ w6, Ex (fun k => k = s ∨ mB mv k) wS w6 → ∀ b', M a b' w6 → A6 w d g gi r h ev t mv M x sv a b' most v m1 s w6 := fun w6 hx b' hm => by
    have lx := hA.mx.lt (by omega)
    refine ⟨hA.dc.same fun k hk => hx.block k (hA.dc.lt k hk) (fun hy => ?_), hm, hA.mx.same (hx.block x lx (fun hy => hy.elim (fun e => hA.sw.nx e.symm) nmx)), Nat.lt_of_lt_of_le (hA.sw.sk.lt (by omega)) hx.size, hA.sf, ?_⟩
    · rcases hy with rfl | hy
      · exact hA.sw.nc hk
      · rcases hk with rfl | hk
        · exact hA.dc.nm hy
        · obtain ⟨m1', m2, m3, m4, m5⟩ := hA.dc.dt.mp k hy
          rcases hk with y | y | y | y | y
          · exact m1' y
          · exact m2 y
          · exact m3 y
          · exact m4 y
          · exact m5 y
    · refine (hA.ex.mono (fun k _ e => .inr (.inl e))).next hx (fun k hk hy => ?_)
      rcases hy with rfl | hy
      · exact hA.sf.elim (fun y => .inr (.inr y)) (fun y => by omega)
      · exact .inl hy
  refine (next7_any hA.dc.dt hA.dc.ok.inv hMo hMv hA.m hb hA.sw.sk nds hA.sw.nm (by omega) hA.sw.td hA.sw.ff hA.sw.lt hA.sw.le hA.sw.ge hlen).mono ?_
  rintro e w6 ⟨j, h1, h2, hcs⟩
  have vi : ∀ {tp : Value} {told' : Int}, Sk w6 s tp t.turn m1.hash t.L (j + 1) told' (i + (j + 1 - i)) → Sk w6 s tp t.turn m1.hash t.L (j + 1) told' (j + 1) := fun hk => by
    rw [show i + (j + 1 - i) = j + 1 by omega] at hk
    exact hk
  rcases hcs with (⟨n, rfl, o1, l1, c1, a1, b1, m1', hN⟩ | ⟨rfl, rfl, hall, hN⟩)
  · refine ⟨j, h1, h2, key w6 hN.ex _ hN.m, hN.ex, ⟨⟨_, _, _, _, _, _, vi hN.sk⟩, hA.sw.nc, hA.sw.nm⟩, .inl ⟨n, rfl, o1, l1, m1', ?_⟩⟩
    have hjlt : j < f := by
      rcases Nat.lt_or_ge j f with z | z
      · exact z
      · have : j = f := by omega
        rw [this, hA.sw.ff.1] at c1
        omega
    have hk := hN.sk
    rw [show i + (j + 1 - i) = j + 1 by omega] at hk
    exact ⟨hk, b1, hA.sw.ff, hjlt, hA.sw.lt, by omega, hA.sw.nc, hA.sw.nm, hA.sw.nx⟩
  · exact ⟨j, h1, h2, key w6 hN.ex _ hN.m, hN.ex, ⟨⟨_, _, _, _, _, _, vi hN.sk⟩, hA.sw.nc, hA.sw.nm⟩, .inr ⟨rfl, rfl, hall⟩⟩
/-- A call of the dictionary behind that. -/
theorem A6.cm {w w' : World} {d g gi r h : Nat} {ev : Value} {t : Tb} {mv : Value} {M : Int → Int → World → Prop} {x : Nat} {sv : Value} {a b a' b' : Int} {most : Int} {v v' : Nat} {m1 : Ma} {s : Nat} {w6 : World} (hA : A6 w d g gi r h ev t mv M x sv a b most v m1 s w6) {t' : Tb} {gi' r' h' : Nat} {ev' : Value} (c : Cd w6 d g gi r h ev mv M a' b' most v' t' w' gi' r' h' ev') : Cm w d g gi r h ev mv M x sv a' b' most v' t' w' gi' r' h' ev' :=
  ⟨c.dc, c.m, fun j hj => (c.fx j hj).elim .inl (fun y => .inr (Nat.le_trans hA.ex.size y)), (hA.ex.mono (fun _ _ hk => .inr hk)).next c.ex (fun _ _ hk => hk.elim .inl (fun y => .inr (.inl y)))⟩
end Go.Proofs.YtaoejpehodoacabGreat
