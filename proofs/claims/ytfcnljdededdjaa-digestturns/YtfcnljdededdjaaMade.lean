/-
  What slices.Clone, formed and checked do.
-/
import Derived.Laws.AppendOwnNone
import Derived.Lib.SliceRun
import Derived.WideShapes
import Derived.Test.YtfcnljdededdjaaCompare
namespace Go.Proofs.Ytfcnljdededdjaa
open Go.RowKit Go.WideShapes

theorem Try.infoWord : (Try.prog.info? 39).map (fun i => (i.zero, i.size, i.bytes)) = some (some (.int .u32 0), 1, 4) := by kernel_rfl
theorem words_one (xs : List Nat) (k : IntKind) : ∀ u ∈ (xs.map fun x : Nat => Value.int k (x : Int)), u.oneCell' = true := by
  intro u hu
  simp only [List.mem_map] at hu
  obtain ⟨x, _, rfl⟩ := hu
  rfl
theorem seg_cells {k : IntKind} {w : World} {b off : Nat} {xs : List Nat} (h : Seg k w b off xs) : ∀ j u, (xs.map fun x : Nat => Value.int k (x : Int))[j]? = some u → w.cell? (Addr.add ⟨b, off, none⟩ j) = some u := by
  intro j u hu
  rw [List.getElem?_map] at hu
  cases hx : xs[j]? with
  | none => rw [hx] at hu; simp at hu
  | some x =>
    rw [hx] at hu
    simp at hu
    have hj : j < xs.length := (List.getElem?_eq_some_iff.1 hx).1
    rw [add_plain, h j hj, hx, ← hu]
    rfl
theorem Ow.form {k : IntKind} {B : Nat} {w : World} {v : Value} {xs : List Nat} (h : Ow k B w v xs) : ∃ a cap, v = .slice a xs.length cap := by
  obtain ⟨a, cap, e, _⟩ := h
  exact ⟨a, cap, e⟩
theorem ownsRow_new (w : World) (B e : Nat) (hB : B ≤ w.heap.size) : (w.alloc (.cells #[] e)).ownsRow B e 1 (.slice (some ⟨w.heap.size, 0, none⟩) 0 0) 0 [] :=
  ⟨rfl, Or.inr ⟨w.heap.size, 0, #[], rfl, hB, World.alloc_heap_new w _, Nat.le_refl _, Nat.zero_le _, rfl, rfl⟩⟩

/-- A store into a cell that holds no number leaves rows of numbers alone. -/
theorem Seg.setOther {k : IntKind} {w : World} {b off : Nat} {xs : List Nat} (h : Seg k w b off xs) {p : Addr} {u : Value} (hp : w.cell? p = some u) (hu : ∀ q n, u ≠ .int q n) (v : Value) : Seg k (w.setCell p v) b off xs := by
  intro j hj
  rw [World.cell?_setCell_other _ _ _ _ (fun e => ?_), h j hj]
  have := h j hj
  rw [← e, hp] at this
  exact hu _ _ (Option.some.inj this)
theorem Sl.setOther {k : IntKind} {w : World} {sv : Value} {xs : List Nat} (h : Sl k w sv xs) {p : Addr} {u : Value} (hp : w.cell? p = some u) (hu : ∀ q n, u ≠ .int q n) (v : Value) : Sl k (w.setCell p v) sv xs := by
  obtain ⟨a, cap, e, hc, h⟩ := h
  refine ⟨a, cap, e, hc, fun hn => ?_⟩
  obtain ⟨b, off, e1, h1⟩ := h hn
  exact ⟨b, off, e1, h1.setOther hp hu v⟩
theorem Ow.setOther {k : IntKind} {B : Nat} {w : World} {sv : Value} {xs : List Nat} (h : Ow k B w sv xs) {p : Addr} {u : Value} (hp : w.cell? p = some u) (hu : ∀ q n, u ≠ .int q n) (v : Value) : Ow k B (w.setCell p v) sv xs := by
  obtain ⟨a, cap, e, hc, h⟩ := h
  refine ⟨a, cap, e, hc, fun hn => ?_⟩
  obtain ⟨b, off, e1, hB, h1, h2⟩ := h hn
  exact ⟨b, off, e1, hB, h1.setOther hp hu v, h2.set p v⟩
/-- A box of an Int at block N, written over. -/
def put2 (w : World) (N : Nat) (neg : Bool) (s : Value) : World := (w.setCell ⟨N, 0, none⟩ (.bool neg)).setCell ⟨N, 1, none⟩ s
structure Box2 (w : World) (N : Nat) (neg : Bool) (a : Option Addr) (n cap : Nat) : Prop where
  c0 : w.cell? ⟨N, 0, none⟩ = some (.bool neg)
  c1 : w.cell? ⟨N, 1, none⟩ = some (.slice a n cap)
  f0 : w.frozen? ⟨N, 0, none⟩ = false
  f1 : w.frozen? ⟨N, 1, none⟩ = false
theorem Box2.new (w : World) (neg : Bool) (a : Option Addr) (n cap : Nat) (t : TypeId) : Box2 (w.alloc (.cells #[.bool neg, .slice a n cap] t)) w.heap.size neg a n cap :=
  ⟨by rw [World.cell?_alloc_at _ _ _ _ rfl]; rfl, by rw [World.cell?_alloc_at _ _ _ _ rfl]; rfl, World.frozen?_alloc_at _ _ _ _ rfl, World.frozen?_alloc_at _ _ _ _ rfl⟩
theorem Box2.lt {w : World} {N : Nat} {neg : Bool} {a : Option Addr} {n cap : Nat} (h : Box2 w N neg a n cap) : N < w.heap.size := lt_of_cell h.c0
theorem Box2.below {w w' : World} {N : Nat} {neg : Bool} {a : Option Addr} {n cap : Nat} (h : Box2 w N neg a n cap) (hb : Below w.heap.size w w') : Box2 w' N neg a n cap :=
  ⟨(hb.cell (p := ⟨N, 0, none⟩) h.lt).trans h.c0, (hb.cell (p := ⟨N, 1, none⟩) h.lt).trans h.c1, (hb.frozen (p := ⟨N, 0, none⟩) h.lt).trans h.f0, (hb.frozen (p := ⟨N, 1, none⟩) h.lt).trans h.f1⟩
theorem Box2.putSlice {w : World} {N : Nat} {neg : Bool} {a : Option Addr} {n cap : Nat} (h : Box2 w N neg a n cap) (x : Bool) : (w.setCell ⟨N, 0, none⟩ (.bool x)).cell? ⟨N, 1, none⟩ = some (.slice a n cap) := by
  rw [World.cell?_setCell_other _ _ _ _ (by intro e; injection e with _ e; omega)]; exact h.c1
theorem Box2.put {w : World} {N : Nat} {neg : Bool} {a : Option Addr} {n cap : Nat} (h : Box2 w N neg a n cap) (x : Bool) (a' : Option Addr) (n' cap' : Nat) : Box2 (put2 w N x (.slice a' n' cap')) N x a' n' cap' := by
  refine ⟨?_, World.cell?_setCell_same' _ _ _ (by rw [h.putSlice]; rfl), ?_, ?_⟩
  · unfold put2
    rw [World.cell?_setCell_other _ _ _ _ (by intro e; injection e with _ e; omega)]
    exact World.cell?_setCell_same' _ _ _ (by rw [h.c0]; rfl)
  · unfold put2; rw [World.frozen?_setCell, World.frozen?_setCell]; exact h.f0
  · unfold put2; rw [World.frozen?_setCell, World.frozen?_setCell]; exact h.f1
theorem Sl.put {k : IntKind} {w : World} {sv : Value} {xs : List Nat} (h : Sl k w sv xs) {N : Nat} {neg : Bool} {a : Option Addr} {n cap : Nat} (hb : Box2 w N neg a n cap) (x : Bool) (s : Value) : Sl k (put2 w N x s) sv xs :=
  (h.setOther hb.c0 (fun _ _ e => by cases e) _).setOther (hb.putSlice x) (fun _ _ e => by cases e) _
theorem Ow.put {k : IntKind} {B : Nat} {w : World} {sv : Value} {xs : List Nat} (h : Ow k B w sv xs) {N : Nat} {neg : Bool} {a : Option Addr} {n cap : Nat} (hb : Box2 w N neg a n cap) (x : Bool) (s : Value) : Ow k B (put2 w N x s) sv xs :=
  (h.setOther hb.c0 (fun _ _ e => by cases e) _).setOther (hb.putSlice x) (fun _ _ e => by cases e) _
theorem below_put2 {B N : Nat} {a w : World} (h : Below B a w) (hN : B ≤ N) (x : Bool) (s : Value) : Below B a (put2 w N x s) :=
  (h.setCell (p := ⟨N, 0, none⟩) hN _).setCell (p := ⟨N, 1, none⟩) hN _

/-- An Int value in its form, of the number z, its words (from block B on) in the world w. -/
def IntIs (B : Nat) (w : World) (v : Value) (z : Int) : Prop :=
  ∃ neg a n cap xs, v = .agg #[.bool neg, .slice a n cap] ∧ Ow .u32 B w (.slice a n cap) xs ∧ okw xs ∧ Tr xs ∧ (xs = [] → neg = false ∧ a = none ∧ cap = 0) ∧ z = zv neg (val xs)

/-- A result that is refused where it would be long. -/
def Res (B : Nat) (w : World) (v : Value) (k : Int) (z : Int) : Prop :=
  (z.natAbs < pw 256 ∧ k = 0 ∧ IntIs B w v z) ∨ (pw 256 ≤ z.natAbs ∧ k = 3 ∧ v = .agg #[.bool false, .slice none 0 0])
theorem IntIs.below {B : Nat} {w w' : World} {v : Value} {z : Int} (h : IntIs B w v z) (hb : Below w.heap.size w w') : IntIs B w' v z := by
  obtain ⟨neg, a, n, cap, xs, e, ho, h⟩ := h
  exact ⟨neg, a, n, cap, xs, e, ho.below hb, h⟩
theorem IntIs.mono {B B' : Nat} {w : World} {v : Value} {z : Int} (h : IntIs B w v z) (hB : B' ≤ B) : IntIs B' w v z := by
  obtain ⟨neg, a, n, cap, xs, e, ho, h⟩ := h
  exact ⟨neg, a, n, cap, xs, e, ho.mono hB, h⟩
theorem IntIs.put {B : Nat} {w : World} {v : Value} {z : Int} (h : IntIs B w v z) {N : Nat} {neg : Bool} {a : Option Addr} {n cap : Nat} (hb : Box2 w N neg a n cap) (x : Bool) (s : Value) : IntIs B (put2 w N x s) v z := by
  obtain ⟨neg, a, n, cap, xs, e, ho, h⟩ := h
  exact ⟨neg, a, n, cap, xs, e, ho.put hb x s, h⟩
theorem zv_abs (neg : Bool) (n : Nat) : (zv neg n).natAbs = n := by
  unfold zv
  split <;> omega

end Go.Proofs.Ytfcnljdededdjaa
