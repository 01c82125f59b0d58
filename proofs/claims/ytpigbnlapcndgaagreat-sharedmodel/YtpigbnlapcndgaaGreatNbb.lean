/-
  What compareWords does: the order of two trimmed rows of words.
  What Compare does: the order of two Ints' values.
  What slices.Clone, formed and checked do.
  What Rest of package whole does.
  What addInto and addWords do.
  What Rest of the reference does.
-/
import Derived.Test.YtpigbnlapcndgaaGreatNba
import Derived.Deep.RegionHeld3
import Derived.Deep.Cut
import Derived.Laws.AppendOwnNone
import Derived.Lib.SliceRun
import Derived.WideShapes
import Derived.Laws.CopyOwn
namespace Go.Proofs.YtpigbnlapcndgaaGreat
open Go.RowKit Go.Shelf
attribute [local go_sem] Oper.semAt_some

theorem OwnFrom.box {β : Type} (B0 B : Nat) (t : TypeId) (f : β → Value) : OwnFrom B0 (fun s W => Boxed W B t (f s)) := Own.from (boxed_own B t f) B0

theorem Sl.trimmed {w : World} {a : Option Addr} {n cap : Nat} {xs : List Nat} (h : Sl .u32 w (.slice a n cap) xs) : Sl .u32 w (.slice a (tl xs xs.length) cap) (trimL xs) := h.take _ (tl_le _ _)
theorem Ow.trimmed {B : Nat} {w : World} {a : Option Addr} {n cap : Nat} {xs : List Nat} (h : Ow .u32 B w (.slice a n cap) xs) : Ow .u32 B w (.slice a (tl xs xs.length) cap) (trimL xs) := h.take _ (tl_le _ _)
end Go.Proofs.YtpigbnlapcndgaaGreat
namespace Go.Proofs.YtpigbnlapcndgaaGreat
open Go.RowKit

/-- Two boxes of two cells each, laid at w's end, hold what they held; what w had stands. -/
abbrev S2 (w : World) (a0 a1 b0 b1 : Value) (W : World) : Prop :=
  (W.cell? ⟨w.heap.size, 0, none⟩ = some a0 ∧ W.cell? ⟨w.heap.size, 1, none⟩ = some a1 ∧ W.cell? ⟨w.heap.size + 1, 0, none⟩ = some b0 ∧ W.cell? ⟨w.heap.size + 1, 1, none⟩ = some b1) ∧ w.heap.size + 2 ≤ W.heap.size ∧ Below w.heap.size w W
theorem S2.init (w : World) (a0 a1 b0 b1 : Value) (s t : TypeId) : S2 w a0 a1 b0 b1 ((w.alloc (.cells #[a0, a1] s)).alloc (.cells #[b0, b1] t)).drew := by
  refine ⟨⟨?_, ?_, ?_, ?_⟩, ?_, ?_⟩
  · show ((w.alloc (.cells #[a0, a1] s)).alloc (.cells #[b0, b1] t)).cell? _ = _
    rw [World.cell?_alloc_past _ _ _ (by simp), World.cell?_alloc_at _ _ _ _ rfl]; rfl
  · show ((w.alloc (.cells #[a0, a1] s)).alloc (.cells #[b0, b1] t)).cell? _ = _
    rw [World.cell?_alloc_past _ _ _ (by simp), World.cell?_alloc_at _ _ _ _ rfl]; rfl
  · show ((w.alloc (.cells #[a0, a1] s)).alloc (.cells #[b0, b1] t)).cell? _ = _
    rw [World.cell?_alloc_at _ _ _ _ (by simp)]; rfl
  · show ((w.alloc (.cells #[a0, a1] s)).alloc (.cells #[b0, b1] t)).cell? _ = _
    rw [World.cell?_alloc_at _ _ _ _ (by simp)]; rfl
  · show _ ≤ ((w.alloc (.cells #[a0, a1] s)).alloc (.cells #[b0, b1] t)).heap.size
    simp
  · exact (((Below.refl w.heap.size w).alloc (Nat.le_refl _) _).alloc (by simp) _).drew
theorem S2.keep {w W W' : World} {a0 a1 b0 b1 : Value} (h : S2 w a0 a1 b0 b1 W) (hb : Below W.heap.size W W') : S2 w a0 a1 b0 b1 W' := by
  obtain ⟨⟨h1, h2, h3, h4⟩, hs, hB⟩ := h
  have hs' := hb.size
  exact ⟨⟨(hb.cell (p := ⟨w.heap.size, 0, none⟩) (by simp; omega)).trans h1, (hb.cell (p := ⟨w.heap.size, 1, none⟩) (by simp; omega)).trans h2,
    (hb.cell (p := ⟨w.heap.size + 1, 0, none⟩) (by simp; omega)).trans h3, (hb.cell (p := ⟨w.heap.size + 1, 1, none⟩) (by simp; omega)).trans h4⟩, by omega, hB.trans (hb.mono (by omega))⟩
theorem S2.below {w W : World} {a0 a1 b0 b1 : Value} (h : S2 w a0 a1 b0 b1 W) : Below w.heap.size w W := h.2.2
theorem below_drew {W : World} : Below W.heap.size W W.drew := (Below.refl _ _).drew

/-- The value of an Int. -/
def zv (neg : Bool) (n : Nat) : Int := if neg then -(n : Int) else (n : Int)

theorem tl_zero {xs : List Nat} : tl xs xs.length = 0 ↔ val xs = 0 := by
  rw [← trimL_length, ← val_trimL xs]
  exact (Tr_zero (Tr_trimL xs)).symm
theorem sgn_tl (neg : Bool) (xs : List Nat) : sgn neg (tl xs xs.length) = sgn neg (val xs) := by
  simp only [sgn, tl_zero]
theorem cmp_parts (na nb : Bool) (x y : Nat) (h : sgn na x ≠ sgn nb y) : cmpI (sgn na x) (sgn nb y) = cmpI (zv na x) (zv nb y) := by
  unfold sgn zv cmpI at *
  cases na <;> cases nb <;> simp at h ⊢ <;> (repeat' split at h) <;> (repeat' split) <;> omega
theorem cmp_one (na nb : Bool) (x y : Nat) (h : sgn na x = sgn nb y) : sgn na x * cmpN x y = cmpI (zv na x) (zv nb y) := by
  unfold sgn zv cmpI cmpN at *
  cases na <;> cases nb <;> simp at h ⊢ <;> (repeat' split at h) <;> (repeat' split) <;> omega
theorem cmpN_bd (x y : Nat) : -1 ≤ cmpN x y ∧ cmpN x y ≤ 1 := by
  unfold cmpN
  repeat' split
  all_goals omega
theorem sgn_bd (n : Bool) (x : Nat) : sgn n x = -1 ∨ sgn n x = 0 ∨ sgn n x = 1 := by
  unfold sgn
  repeat' split
  all_goals omega

end Go.Proofs.YtpigbnlapcndgaaGreat
namespace Go.Proofs.YtpigbnlapcndgaaGreat
open Go.RowKit Go.WideShapes

theorem Tryz.infoWord : (Tryz.prog.info? 125).map (fun i => (i.zero, i.size, i.bytes)) = some (some (.int .u32 0), 1, 4) := by kernel_rfl
theorem words_one (xs : List Nat) (k : IntKind) : ∀ u ∈ (xs.map fun x : Nat => Value.int k (x : Int)), u.oneCell' = true := by
  intro u hu
  simp only [List.mem_map] at hu
  obtain ⟨x, _, rfl⟩ := hu
  rfl
theorem seg_cells {k : IntKind} {w : World} {b off : Nat} {xs : List Nat} (h : Seg k w b off xs) : ∀ j u, (xs.map fun x : Nat => Value.int k (x : Int))[j]? = some u → w.cell? (Addr.add ⟨b, off, none⟩ j) = some u := by
  intro j u hu
  rw [List.getElem?_map] at hu
  cases hx : xs[j]? with
  | none => rw [hx] at hu; simp at hu
  | some x =>
    rw [hx] at hu
    simp at hu
    have hj : j < xs.length := (List.getElem?_eq_some_iff.1 hx).1
    rw [add_plain, h j hj, hx, ← hu]
    rfl
theorem Ow.form {k : IntKind} {B : Nat} {w : World} {v : Value} {xs : List Nat} (h : Ow k B w v xs) : ∃ a cap, v = .slice a xs.length cap := by
  obtain ⟨a, cap, e, _⟩ := h
  exact ⟨a, cap, e⟩
theorem ownsRow_new (w : World) (B e : Nat) (hB : B ≤ w.heap.size) : (w.alloc (.cells #[] e)).ownsRow B e 1 (.slice (some ⟨w.heap.size, 0, none⟩) 0 0) 0 [] :=
  ⟨rfl, Or.inr ⟨w.heap.size, 0, #[], rfl, hB, World.alloc_heap_new w _, Nat.le_refl _, Nat.zero_le _, rfl, rfl⟩⟩

/-- A store into a cell that holds no number leaves rows of numbers alone. -/
theorem Seg.setOther {k : IntKind} {w : World} {b off : Nat} {xs : List Nat} (h : Seg k w b off xs) {p : Addr} {u : Value} (hp : w.cell? p = some u) (hu : ∀ q n, u ≠ .int q n) (v : Value) : Seg k (w.setCell p v) b off xs := by
  intro j hj
  rw [World.cell?_setCell_other _ _ _ _ (fun e => ?_), h j hj]
  have := h j hj
  rw [← e, hp] at this
  exact hu _ _ (Option.some.inj this)
theorem Sl.setOther {k : IntKind} {w : World} {sv : Value} {xs : List Nat} (h : Sl k w sv xs) {p : Addr} {u : Value} (hp : w.cell? p = some u) (hu : ∀ q n, u ≠ .int q n) (v : Value) : Sl k (w.setCell p v) sv xs := by
  obtain ⟨a, cap, e, hc, h⟩ := h
  refine ⟨a, cap, e, hc, fun hn => ?_⟩
  obtain ⟨b, off, e1, h1⟩ := h hn
  exact ⟨b, off, e1, h1.setOther hp hu v⟩
theorem Ow.setOther {k : IntKind} {B : Nat} {w : World} {sv : Value} {xs : List Nat} (h : Ow k B w sv xs) {p : Addr} {u : Value} (hp : w.cell? p = some u) (hu : ∀ q n, u ≠ .int q n) (v : Value) : Ow k B (w.setCell p v) sv xs := by
  obtain ⟨a, cap, e, hc, h⟩ := h
  refine ⟨a, cap, e, hc, fun hn => ?_⟩
  obtain ⟨b, off, e1, hB, h1, h2⟩ := h hn
  exact ⟨b, off, e1, hB, h1.setOther hp hu v, h2.set p v⟩
/-- A box of an Int at block N, written over. -/
def put2 (w : World) (N : Nat) (neg : Bool) (s : Value) : World := (w.setCell ⟨N, 0, none⟩ (.bool neg)).setCell ⟨N, 1, none⟩ s
structure Box2 (w : World) (N : Nat) (neg : Bool) (a : Option Addr) (n cap : Nat) : Prop where
  c0 : w.cell? ⟨N, 0, none⟩ = some (.bool neg)
  c1 : w.cell? ⟨N, 1, none⟩ = some (.slice a n cap)
  f0 : w.frozen? ⟨N, 0, none⟩ = false
  f1 : w.frozen? ⟨N, 1, none⟩ = false
theorem Box2.new (w : World) (neg : Bool) (a : Option Addr) (n cap : Nat) (t : TypeId) : Box2 (w.alloc (.cells #[.bool neg, .slice a n cap] t)) w.heap.size neg a n cap :=
  ⟨by rw [World.cell?_alloc_at _ _ _ _ rfl]; rfl, by rw [World.cell?_alloc_at _ _ _ _ rfl]; rfl, World.frozen?_alloc_at _ _ _ _ rfl, World.frozen?_alloc_at _ _ _ _ rfl⟩
theorem Box2.lt {w : World} {N : Nat} {neg : Bool} {a : Option Addr} {n cap : Nat} (h : Box2 w N neg a n cap) : N < w.heap.size := lt_of_cell h.c0
theorem Box2.below {w w' : World} {N : Nat} {neg : Bool} {a : Option Addr} {n cap : Nat} (h : Box2 w N neg a n cap) (hb : Below w.heap.size w w') : Box2 w' N neg a n cap :=
  ⟨(hb.cell (p := ⟨N, 0, none⟩) h.lt).trans h.c0, (hb.cell (p := ⟨N, 1, none⟩) h.lt).trans h.c1, (hb.frozen (p := ⟨N, 0, none⟩) h.lt).trans h.f0, (hb.frozen (p := ⟨N, 1, none⟩) h.lt).trans h.f1⟩
theorem Box2.putSlice {w : World} {N : Nat} {neg : Bool} {a : Option Addr} {n cap : Nat} (h : Box2 w N neg a n cap) (x : Bool) : (w.setCell ⟨N, 0, none⟩ (.bool x)).cell? ⟨N, 1, none⟩ = some (.slice a n cap) := by
  rw [World.cell?_setCell_other _ _ _ _ (by intro e; injection e with _ e; omega)]; exact h.c1
theorem Box2.put {w : World} {N : Nat} {neg : Bool} {a : Option Addr} {n cap : Nat} (h : Box2 w N neg a n cap) (x : Bool) (a' : Option Addr) (n' cap' : Nat) : Box2 (put2 w N x (.slice a' n' cap')) N x a' n' cap' := by
  refine ⟨?_, World.cell?_setCell_same' _ _ _ (by rw [h.putSlice]; rfl), ?_, ?_⟩
  · unfold put2
    rw [World.cell?_setCell_other _ _ _ _ (by intro e; injection e with _ e; omega)]
    exact World.cell?_setCell_same' _ _ _ (by rw [h.c0]; rfl)
  · unfold put2; rw [World.frozen?_setCell, World.frozen?_setCell]; exact h.f0
  · unfold put2; rw [World.frozen?_setCell, World.frozen?_setCell]; exact h.f1
theorem Sl.put {k : IntKind} {w : World} {sv : Value} {xs : List Nat} (h : Sl k w sv xs) {N : Nat} {neg : Bool} {a : Option Addr} {n cap : Nat} (hb : Box2 w N neg a n cap) (x : Bool) (s : Value) : Sl k (put2 w N x s) sv xs :=
  (h.setOther hb.c0 (fun _ _ e => by cases e) _).setOther (hb.putSlice x) (fun _ _ e => by cases e) _
theorem Ow.put {k : IntKind} {B : Nat} {w : World} {sv : Value} {xs : List Nat} (h : Ow k B w sv xs) {N : Nat} {neg : Bool} {a : Option Addr} {n cap : Nat} (hb : Box2 w N neg a n cap) (x : Bool) (s : Value) : Ow k B (put2 w N x s) sv xs :=
  (h.setOther hb.c0 (fun _ _ e => by cases e) _).setOther (hb.putSlice x) (fun _ _ e => by cases e) _
theorem below_put2 {B N : Nat} {a w : World} (h : Below B a w) (hN : B ≤ N) (x : Bool) (s : Value) : Below B a (put2 w N x s) :=
  (h.setCell (p := ⟨N, 0, none⟩) hN _).setCell (p := ⟨N, 1, none⟩) hN _

/-- An Int value in its form, of the number z, its words (from block B on) in the world w. -/
def IntIs (B : Nat) (w : World) (v : Value) (z : Int) : Prop :=
  ∃ neg a n cap xs, v = .agg #[.bool neg, .slice a n cap] ∧ Ow .u32 B w (.slice a n cap) xs ∧ okw xs ∧ Tr xs ∧ (xs = [] → neg = false ∧ a = none ∧ cap = 0) ∧ z = zv neg (val xs)

/-- A result that is refused where it would be long. -/
def Res (B : Nat) (w : World) (v : Value) (k : Int) (z : Int) : Prop :=
  (z.natAbs < pw 256 ∧ k = 0 ∧ IntIs B w v z) ∨ (pw 256 ≤ z.natAbs ∧ k = 3 ∧ v = .agg #[.bool false, .slice none 0 0])
theorem IntIs.below {B : Nat} {w w' : World} {v : Value} {z : Int} (h : IntIs B w v z) (hb : Below w.heap.size w w') : IntIs B w' v z := by
  obtain ⟨neg, a, n, cap, xs, e, ho, h⟩ := h
  exact ⟨neg, a, n, cap, xs, e, ho.below hb, h⟩
theorem IntIs.mono {B B' : Nat} {w : World} {v : Value} {z : Int} (h : IntIs B w v z) (hB : B' ≤ B) : IntIs B' w v z := by
  obtain ⟨neg, a, n, cap, xs, e, ho, h⟩ := h
  exact ⟨neg, a, n, cap, xs, e, ho.mono hB, h⟩
theorem IntIs.put {B : Nat} {w : World} {v : Value} {z : Int} (h : IntIs B w v z) {N : Nat} {neg : Bool} {a : Option Addr} {n cap : Nat} (hb : Box2 w N neg a n cap) (x : Bool) (s : Value) : IntIs B (put2 w N x s) v z := by
  obtain ⟨neg, a, n, cap, xs, e, ho, h⟩ := h
  exact ⟨neg, a, n, cap, xs, e, ho.put hb x s, h⟩
theorem zv_abs (neg : Bool) (n : Nat) : (zv neg n).natAbs = n := by
  unfold zv
  split <;> omega

end Go.Proofs.YtpigbnlapcndgaaGreat
namespace Go.Proofs.YtpigbnlapcndgaaGreat
open Go.RowKit Go.Shelf
attribute [local go_sem] Oper.semAt_some

theorem below_alloc' (w : World) (o : Obj) : Below w.heap.size w (w.alloc o) := (Below.refl _ _).alloc (Nat.le_refl _) _
theorem boxed_below {W W' : World} {N : Nat} {t : TypeId} {v : Value} (h : Boxed W N t v) (hb : Below W.heap.size W W') : Boxed W' N t v := (hb.block N h.lt).trans h
theorem keeps_below {B : Nat} {W W' : World} (hb : Below W.heap.size W W') : KeepsFrom B W W' := ⟨hb.size, fun k _ _ hk _ => (hb.block k (Array.getElem?_eq_some_iff.1 hk).1).trans hk⟩

theorem mod_step (V x m : Nat) : (x + 4294967296 * V) % m = (V % m * 4294967296 + x) % m := by
  rw [Nat.add_mod (V % m * 4294967296), Nat.mul_mod, Nat.mod_mod, ← Nat.mul_mod, ← Nat.add_mod, Nat.add_comm, Nat.mul_comm]
theorem neg_mod_zero {v m : Nat} (h : v % m = 0) : (-(v : Int)) % (m : Int) = 0 := by
  obtain ⟨q, rfl⟩ := Nat.dvd_of_mod_eq_zero h
  rw [show (-((m * q : Nat) : Int)) = (m : Int) * (-(q : Int)) by push_cast; rw [Int.mul_neg]]
  exact Int.mul_emod_right _ _
theorem neg_mod_pos {v m r : Nat} (h : v % m = r) (h0 : r ≠ 0) (hr : r < m) : (-(v : Int)) % (m : Int) = (m : Int) - r := by
  have e := Nat.div_add_mod v m
  rw [h] at e
  generalize v / m = q at e
  have e2 : (-(v : Int)) = ((m : Int) - r) + (m : Int) * (-((q : Int) + 1)) := by
    rw [← e, Int.mul_neg, Int.mul_add]
    push_cast
    omega
  rw [e2, Int.add_mul_emod_self_left, Int.emod_eq_of_lt (by omega) (by omega)]

end Go.Proofs.YtpigbnlapcndgaaGreat
namespace Go.Proofs.YtpigbnlapcndgaaGreat
open Go.RowKit

/-- From w to w' only the n cells at ⟨g, off⟩ may have turned. -/
structure OnlyRow (w w' : World) (g off n : Nat) : Prop where
  os : w'.os = w.os
  tape : w'.tape = w.tape
  output : w'.output = w.output
  size : w'.heap.size = w.heap.size
  block : ∀ k, k ≠ g → w'.heap[k]? = w.heap[k]?
  cell : ∀ o, (o < off ∨ off + n ≤ o) → w'.cell? ⟨g, o, none⟩ = w.cell? ⟨g, o, none⟩
  frozen : ∀ p, w'.frozen? p = w.frozen? p
theorem OnlyRow.refl (w : World) (g off n : Nat) : OnlyRow w w g off n := ⟨rfl, rfl, rfl, rfl, fun _ _ => rfl, fun _ _ => rfl, fun _ => rfl⟩
theorem OnlyRow.set {w w' : World} {g off n : Nat} (h : OnlyRow w w' g off n) (i : Nat) (hi : i < n) (v : Value) : OnlyRow w (w'.setCell ⟨g, off + i, none⟩ v) g off n := by
  refine ⟨h.os, h.tape, h.output, by rw [← h.size]; simp [World.setCell], fun k hk => ?_, fun o ho => ?_, fun p => ?_⟩
  · rw [Below.heap_setCell _ _ _ _ hk]; exact h.block k hk
  · rw [World.cell?_setCell_other _ _ _ _ (by intro e; injection e with _ e; omega)]; exact h.cell o ho
  · rw [World.frozen?_setCell]; exact h.frozen p
theorem OnlyRow.below {w w' : World} {g off n B : Nat} (h : OnlyRow w w' g off n) (hB : B ≤ g) : Below B w w' :=
  ⟨h.os, h.tape, h.output, by rw [h.size]; exact Nat.le_refl _, fun k hk => h.block k (by omega)⟩
theorem OnlyRow.seg {k : IntKind} {w w' : World} {g off n b o : Nat} {xs : List Nat} (h : OnlyRow w w' g off n) (hs : Seg k w b o xs) (hb : b ≠ g) : Seg k w' b o xs :=
  fun j hj => (World.cell?_of_block (a := ⟨b, o + j, none⟩) (h.block b hb)).trans (hs j hj)

theorem val_take_succ' (xs : List Nat) (k : Nat) : val (xs.take (k + 1)) = val (xs.take k) + pw k * (xs[k]?.getD 0) := by
  rcases Nat.lt_or_ge k xs.length with h | h
  · exact val_take_succ xs k h
  · rw [List.take_of_length_le (by omega), List.take_of_length_le h, List.getElem?_eq_none h]; simp
theorem val_split (xs : List Nat) (k : Nat) (h : k ≤ xs.length) : val xs = val (xs.take k) + pw k * val (xs.drop k) := by
  have := val_append (xs.take k) (xs.drop k)
  rw [List.take_append_drop, List.length_take, Nat.min_eq_left h] at this
  exact this
theorem okw_drop {xs : List Nat} (h : okw xs) (k : Nat) : okw (xs.drop k) := fun x hx => h x (List.mem_of_mem_drop hx)
theorem set_mid (ds xs : List Nat) (k d : Nat) (hd : ds.length = k) (hk : k < xs.length) : (ds ++ xs.drop k).set k d = (ds ++ [d]) ++ xs.drop (k + 1) := by
  subst hd
  rw [List.set_append_right _ _ (Nat.le_refl _), Nat.sub_self, List.append_assoc, List.drop_eq_getElem_cons hk]
  rfl
/-- One word of a row that is gone through is written. -/
theorem seg_mid {k : IntKind} {w : World} {g off i : Nat} {ds xs : List Nat} (h : Seg k w g off (ds ++ xs.drop i)) (hd : ds.length = i) (hi : i < xs.length) (d : Nat) : Seg k (w.setCell ⟨g, off + i, none⟩ (.int k (d : Int))) g off ((ds ++ [d]) ++ xs.drop (i + 1)) := by
  rw [← set_mid ds xs i d hd hi]
  exact h.set i (by simp; omega) d
theorem add_val {xs ys ds : List Nat} {k cv d c x y : Nat} (h : val ds + pw k * cv = val (xs.take k) + val (ys.take k)) (hd : ds.length = k) (ex : xs[k]?.getD 0 = x) (ey : ys[k]?.getD 0 = y) (hs : x + y + cv = d + 4294967296 * c) :
    val (ds ++ [d]) + pw (k + 1) * c = val (xs.take (k + 1)) + val (ys.take (k + 1)) := by
  rw [val_append, hd, val_take_succ', val_take_succ', ex, ey]
  simp only [val, pw]
  have e : pw k * (x + y + cv) = pw k * (d + 4294967296 * c) := by rw [hs]
  rw [Nat.mul_add, Nat.mul_add, Nat.mul_add] at e
  have e2 : 4294967296 * pw k * c = pw k * (4294967296 * c) := by rw [Nat.mul_comm 4294967296 (pw k), Nat.mul_assoc]
  rw [e2]
  simp only [Nat.mul_zero, Nat.add_zero]
  omega

/-- Block g is a row of these numbers, the call's own. -/
def Row (k : IntKind) (t : TypeId) (w : World) (g : Nat) (xs : List Nat) : Prop := w.heap[g]? = some (.cells (xs.map fun x : Nat => Value.int k (x : Int)).toArray t (0, 0))
theorem Row.seg {k : IntKind} {t : TypeId} {w : World} {g : Nat} {xs : List Nat} (h : Row k t w g xs) : Seg k w g 0 xs := by
  intro j hj
  unfold World.cell?
  rw [show w.heap[g]? = _ from h]
  simp [hj]
theorem Row.free {k : IntKind} {t : TypeId} {w : World} {g : Nat} {xs : List Nat} (h : Row k t w g xs) (off n : Nat) : Free w g off n := by
  intro j _
  unfold World.frozen?
  rw [show w.heap[g]? = _ from h]
  simp
theorem Row.lt {k : IntKind} {t : TypeId} {w : World} {g : Nat} {xs : List Nat} (h : Row k t w g xs) : g < w.heap.size := (Array.getElem?_eq_some_iff.1 h).1
/-- What 'make' has laid. -/
theorem row_made {w : World} {B t n g : Nat} {k : IntKind} (h : w.ownsRow B t 1 (.slice (some ⟨g, 0, none⟩) n n) n (madeCells (Value.int k 0).cells (n * 1)).toList) : Row k t w g (List.replicate n 0) := by
  rcases h.2 with ⟨e, _⟩ | ⟨g', cap, cur, e, _, hh, _, _, hs, ht⟩
  · cases e
  · injection e with e1 e2 e3
    injection e1 with e1
    injection e1 with e1
    subst e1; subst e3
    unfold Row
    rw [hh]
    simp only [Nat.mul_one] at hs ht
    rw [List.take_of_length_le (by simp [hs])] at ht
    have e : cur = (List.replicate n (Value.int k 0)).toArray := by
      rw [← Array.toArray_toList (xs := cur), ht]
      rw [show (Value.int k 0).cells = #[Value.int k 0] from rfl, toList_madeCells_one]
    rw [e]
    simp
theorem map_splice (L : List Nat) (off : Nat) (cs : List Nat) (f : Nat → Value) : splice (L.map f) off (cs.map f) = (splice L off cs).map f := by simp [splice]
/-- A number in words: its row is the call's own, trimmed. -/
def NumIs (B : Nat) (w : World) (v : Value) (n : Nat) : Prop := ∃ xs, Ow .u32 B w v xs ∧ okw xs ∧ Tr xs ∧ val xs = n
theorem NumIs.below {B : Nat} {w w' : World} {v : Value} {n : Nat} (h : NumIs B w v n) (hb : Below w.heap.size w w') : NumIs B w' v n := by
  obtain ⟨xs, h1, h2⟩ := h
  exact ⟨xs, h1.below hb, h2⟩
theorem NumIs.mono {B B' : Nat} {w : World} {v : Value} {n : Nat} (h : NumIs B w v n) (hB : B' ≤ B) : NumIs B' w v n := by
  obtain ⟨xs, h1, h2⟩ := h
  exact ⟨xs, h1.mono hB, h2⟩

theorem Tryz.sizeWord : (Tryz.prog.info? 125).map (·.size) = some 1 := by kernel_rfl
/-- The cells of the words of a slice. -/
def From (w : World) (a : Option Addr) (X : List Value) : Prop := 0 < X.length → ∃ ad, a = some ad ∧ ∀ j u, X[j]? = some u → w.cell? (ad.add j) = some u
theorem From.below {w w' : World} {a : Option Addr} {X : List Value} (h : From w a X) (hb : Below w.heap.size w w') : From w' a X := fun h0 => by
  obtain ⟨ad, e, h⟩ := h h0
  refine ⟨ad, e, fun j u hu => ?_⟩
  have := h j u hu
  rw [hb.cell (World.block_lt_of_cell? _ _ this)]
  exact this
theorem from_of_sl {k : IntKind} {w : World} {a : Option Addr} {n cap : Nat} {xs : List Nat} (h : Sl k w (.slice a n cap) xs) : From w a (xs.map fun x : Nat => Value.int k (x : Int)) := fun h0 => by
  rcases h.cases with ⟨rfl, _⟩ | ⟨_, b, off, cap', e, _, hs, _⟩
  · simp at h0
  · injection e with e1
    exact ⟨_, e1, seg_cells hs⟩
theorem splice_front (xs : List Nat) : splice (List.replicate (xs.length + 1) 0) 0 xs = xs ++ [0] := by
  simp [splice, List.replicate_succ']
/-- The row behind 'make' and 'copy'. -/
theorem row_front {w : World} {g : Nat} {xs : List Nat} (h : w.heap[g]? = some (.cells (splice ((List.replicate (xs.length + 1) 0).map fun x : Nat => Value.int .u32 (x : Int)) 0 (xs.map fun x : Nat => Value.int .u32 (x : Int))).toArray 125 (0, 0))) : Row .u32 125 w g (xs ++ [0]) := by
  rw [map_splice, splice_front] at h
  exact h

theorem seg_snoc {k : IntKind} {w : World} {g : Nat} {zs : List Nat} {u : Value} (h : Seg k w g 0 zs) (hc : w.cell? ⟨g, zs.length, none⟩ = some u) (c : Nat) : Seg k (w.setCell ⟨g, zs.length, none⟩ (.int k (c : Int))) g 0 (zs ++ [c]) := by
  intro j hj
  rw [List.length_append] at hj
  by_cases hjz : j = zs.length
  · subst hjz
    rw [Nat.zero_add, World.cell?_setCell_same' _ _ _ (by rw [hc]; rfl)]
    simp
  · have hj' : j < zs.length := by simp at hj; omega
    rw [World.cell?_setCell_other _ _ _ _ (by intro e; injection e with _ e; omega), h j hj', List.getElem?_append_left hj']

end Go.Proofs.YtpigbnlapcndgaaGreat
namespace Go.Proofs.YtpigbnlapcndgaaGreat
open Go.RowKit Go.Shelf

theorem pw_two (k : Nat) : pw k = 2 ^ (32 * k) := by
  induction k with
  | zero => rfl
  | succ k ih => rw [show 32 * (k + 1) = 32 + 32 * k by omega, Nat.pow_add, ← ih, show k + 1 = 1 + k by omega, pw_add]; rfl
theorem val_drop_get (xs : List Nat) (p : Nat) (h : p < xs.length) : val (xs.drop p) = xs[p]?.getD 0 + 4294967296 * val (xs.drop (p + 1)) := by
  rw [List.drop_eq_getElem_cons h, List.getElem?_eq_getElem h]; rfl
/-- A number's bit is its word's. -/
theorem val_bit {xs : List Nat} (ox : okw xs) (p s : Nat) (h : p < xs.length) (hs : s < 32) : val xs / 2 ^ (32 * p + s) % 2 = xs[p]?.getD 0 / 2 ^ s % 2 := by
  have h1 := val_split xs p (by omega)
  have h2 := val_lt (okw_take ox p)
  rw [List.length_take, Nat.min_eq_left (by omega)] at h2
  have e : val xs / 2 ^ (32 * p + s) = val (xs.drop p) / 2 ^ s := by
    rw [Nat.pow_add, ← Nat.div_div_eq_div_mul, ← pw_two, h1, Nat.add_mul_div_left _ _ (pw_pos p), Nat.div_eq_of_lt h2, Nat.zero_add]
  rw [e, val_drop_get xs p h]
  have e2 : (4294967296 : Nat) = 2 ^ s * 2 ^ (32 - s) := by rw [← Nat.pow_add, show s + (32 - s) = 32 by omega]
  rw [e2, Nat.mul_assoc, Nat.add_mul_div_left _ _ (Nat.two_pow_pos s)]
  have e3 : (2 : Nat) ^ (32 - s) = 2 * 2 ^ (31 - s) := by rw [show 32 - s = 1 + (31 - s) by omega, Nat.pow_add]
  rw [e3, Nat.mul_assoc, Nat.add_mul_mod_self_left]
theorem half_step (V i : Nat) : V / 2 ^ i = 2 * (V / 2 ^ (i + 1)) + V / 2 ^ i % 2 := by
  rw [Nat.pow_succ, ← Nat.div_div_eq_div_mul]; omega
theorem rest_step {V i m r b : Nat} (hr : r < m) (e : V / 2 ^ (i + 1) % m = r) (hb : V / 2 ^ i % 2 = b) : V / 2 ^ i % m = if m ≤ 2 * r + b then 2 * r + b - m else 2 * r + b := by
  have h := half_step V i
  rw [hb] at h
  have hb2 : b < 2 := by rw [← hb]; exact Nat.mod_lt _ (by decide)
  have e2 : (2 * (V / 2 ^ (i + 1)) + b) % m = (2 * r + b) % m := by
    rw [← e, Nat.add_mod (2 * (V / 2 ^ (i + 1) % m)), Nat.mul_mod 2 (V / 2 ^ (i + 1) % m), Nat.mod_mod, ← Nat.mul_mod, ← Nat.add_mod]
  rw [h, e2]
  split
  · rw [Nat.mod_eq_sub_mod (by omega), Nat.mod_eq_of_lt (by omega)]
  · exact Nat.mod_eq_of_lt (by omega)

theorem and_one_u32 (x : Int) (h0 : 0 ≤ x) (h1 : x < 4294967296) : bits BinOp.and IntKind.u32 x 1 = x % 2 := by
  have h := bits_mask .u32 32 (by decide) (fun n h0 h1 => by rw [IntKind.wrap_u32]; omega) 1 (by decide) x h0 (by omega)
  simpa using h

end Go.Proofs.YtpigbnlapcndgaaGreat
