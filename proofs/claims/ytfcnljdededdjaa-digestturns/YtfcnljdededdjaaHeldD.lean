/-
  Ints that lie in boxes, where the seat has no sums.
-/
import Derived.Test.YtfcnljdededdjaaRefRest
namespace Go.Proofs.Ytfcnljdededdjaa
open Go.RowKit

/-- An Int in its box, of the number z. -/
structure Hd (w : World) (N : Nat) (neg : Bool) (a : Option Addr) (l c : Nat) (xs : List Nat) (z : Int) : Prop where
  box : Box2 w N neg a l c
  sl : Sl .u32 w (.slice a l c) xs
  ok : okw xs
  le : xs.length ≤ 256
  num : zv neg (val xs) = z
/-- Words and sign in their one form. -/
structure Fm (neg : Bool) (xs : List Nat) : Prop where
  tr : Tr xs
  nn : xs = [] → neg = false
/-- An Int that was answered. -/
structure Out (w : World) (neg : Bool) (a : Option Addr) (l c : Nat) (xs : List Nat) (z : Int) : Prop where
  sl : Sl .u32 w (.slice a l c) xs
  ok : okw xs
  le : xs.length ≤ 256
  num : zv neg (val xs) = z
  fm : Fm neg xs
theorem below_alloc (w : World) (o : Obj) : Below w.heap.size w (w.alloc o) := (Below.refl _ _).alloc (Nat.le_refl _) _
theorem Hd.below {w w' : World} {N : Nat} {neg : Bool} {a : Option Addr} {l c : Nat} {xs : List Nat} {z : Int} (h : Hd w N neg a l c xs z) (hb : Below w.heap.size w w') : Hd w' N neg a l c xs z :=
  ⟨h.box.below hb, h.sl.below hb, h.ok, h.le, h.num⟩
theorem Out.below {w w' : World} {neg : Bool} {a : Option Addr} {l c : Nat} {xs : List Nat} {z : Int} (h : Out w neg a l c xs z) (hb : Below w.heap.size w w') : Out w' neg a l c xs z :=
  ⟨h.sl.below hb, h.ok, h.le, h.num, h.fm⟩
theorem Hd.alloc {w : World} {N : Nat} {neg : Bool} {a : Option Addr} {l c : Nat} {xs : List Nat} {z : Int} (h : Hd w N neg a l c xs z) (o : Obj) : Hd (w.alloc o) N neg a l c xs z := h.below (below_alloc w o)
theorem Hd.new {w : World} {neg : Bool} {a : Option Addr} {l c : Nat} {xs : List Nat} {z : Int} (h : Out w neg a l c xs z) (t : TypeId) : Hd (w.alloc (.cells #[.bool neg, .slice a l c] t)) w.heap.size neg a l c xs z :=
  ⟨Box2.new w neg a l c t, h.sl.below (below_alloc w _), h.ok, h.le, h.num⟩
theorem Hd.abs {w : World} {N : Nat} {neg : Bool} {a : Option Addr} {l c : Nat} {xs : List Nat} {z : Int} (h : Hd w N neg a l c xs z) : val xs = z.natAbs := by rw [← h.num, zv_abs]
theorem Out.abs {w : World} {neg : Bool} {a : Option Addr} {l c : Nat} {xs : List Nat} {z : Int} (h : Out w neg a l c xs z) : val xs = z.natAbs := by rw [← h.num, zv_abs]
theorem IntIs.out {B : Nat} {w : World} {neg : Bool} {a : Option Addr} {n c : Nat} {z : Int} (h : IntIs B w (.agg #[.bool neg, .slice a n c]) z) (hz : z.natAbs < pw 256) : ∃ xs, Out w neg a n c xs z := by
  obtain ⟨_, _, _, _, xs, e, ho, ok, t, hn, hz'⟩ := h
  cases e
  exact ⟨xs, ho.sl, ok, Tr_len_le t 256 (by rw [← zv_abs neg (val xs), ← hz']; exact hz), hz'.symm, t, fun h => (hn h).1⟩
theorem zv_eq {na nb : Bool} {x y : Nat} (h : zv na x = zv nb y) : x = y ∧ (x ≠ 0 → na = nb) := by
  have h1 := zv_abs na x
  have h2 := zv_abs nb y
  rw [h] at h1
  refine ⟨by omega, fun h0 => ?_⟩
  obtain rfl : x = y := by omega
  cases na <;> cases nb <;> simp [zv] at h ⊢ <;> omega
theorem boxes2 (w : World) (n0 n1 : Bool) (a0 a1 : Option Addr) (l0 c0 l1 c1 : Nat) (t : TypeId) :
    let W := (w.alloc (.cells #[.bool n0, .slice a0 l0 c0] t)).alloc (.cells #[.bool n1, .slice a1 l1 c1] t)
    Box2 W w.heap.size n0 a0 l0 c0 ∧ Box2 W (w.heap.size + 1) n1 a1 l1 c1 ∧ Below w.heap.size w W := by
  intro W
  refine ⟨(Box2.new w n0 a0 l0 c0 t).below ((Below.refl _ _).alloc (Nat.le_refl _) _), ?_, ((Below.refl w.heap.size w).alloc (Nat.le_refl _) _).alloc (by simp) _⟩
  have := Box2.new (w.alloc (.cells #[.bool n0, .slice a0 l0 c0] t)) n1 a1 l1 c1 t
  simpa using this
theorem IntIs.form {B : Nat} {w : World} {v : Value} {z : Int} (h : IntIs B w v z) : ∃ neg a n cap, v = .agg #[.bool neg, .slice a n cap] := by
  obtain ⟨neg, a, n, cap, xs, e, _⟩ := h
  exact ⟨neg, a, n, cap, e⟩
theorem zv_not (a : Bool) (x : Nat) : zv (!a) x = - zv a x := by
  unfold zv; cases a <;> simp

theorem Sl.place {k : IntKind} {w : World} {a : Option Addr} {n c : Nat} {zs : List Nat} (h : Sl k w (.slice a n c) zs) : ∃ b off, (zs ≠ [] → a = some ⟨b, off, none⟩ ∧ b < w.heap.size) ∧ Seg k w b off zs := by
  rcases h.cases with ⟨rfl, _⟩ | ⟨_, b, off, cap', e, _, hs, hl⟩
  · exact ⟨0, 0, fun h => absurd rfl h, fun j hj => by simp at hj⟩
  · injection e with e1
    exact ⟨b, off, fun _ => ⟨e1, hl⟩, hs⟩
end Go.Proofs.Ytfcnljdededdjaa
