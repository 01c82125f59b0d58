/-
  Ints that lie in boxes, and what sums, products and comparisons of them do where nothing is refused.
-/
import Derived.Test.YteplmnnpmekngabSame
import Derived.Test.YteplmnnpmekngabSubInt
namespace Go.Proofs.Yteplmnnpmekngab
open Go.RowKit

/-- An Int in its box, of the number z. -/
structure Hd (w : World) (N : Nat) (neg : Bool) (a : Option Addr) (l c : Nat) (xs : List Nat) (z : Int) : Prop where
  box : Box2 w N neg a l c
  sl : Sl .u32 w (.slice a l c) xs
  ok : okw xs
  le : xs.length ≤ 256
  num : zv neg (val xs) = z
/-- Words and sign in their one form. -/
structure Fm (neg : Bool) (xs : List Nat) : Prop where
  tr : Tr xs
  nn : xs = [] → neg = false
/-- An Int that was answered. -/
structure Out (w : World) (neg : Bool) (a : Option Addr) (l c : Nat) (xs : List Nat) (z : Int) : Prop where
  sl : Sl .u32 w (.slice a l c) xs
  ok : okw xs
  le : xs.length ≤ 256
  num : zv neg (val xs) = z
  fm : Fm neg xs
theorem below_alloc (w : World) (o : Obj) : Below w.heap.size w (w.alloc o) := (Below.refl _ _).alloc (Nat.le_refl _) _
theorem Hd.below {w w' : World} {N : Nat} {neg : Bool} {a : Option Addr} {l c : Nat} {xs : List Nat} {z : Int} (h : Hd w N neg a l c xs z) (hb : Below w.heap.size w w') : Hd w' N neg a l c xs z :=
  ⟨h.box.below hb, h.sl.below hb, h.ok, h.le, h.num⟩
theorem Out.below {w w' : World} {neg : Bool} {a : Option Addr} {l c : Nat} {xs : List Nat} {z : Int} (h : Out w neg a l c xs z) (hb : Below w.heap.size w w') : Out w' neg a l c xs z :=
  ⟨h.sl.below hb, h.ok, h.le, h.num, h.fm⟩
theorem Hd.alloc {w : World} {N : Nat} {neg : Bool} {a : Option Addr} {l c : Nat} {xs : List Nat} {z : Int} (h : Hd w N neg a l c xs z) (o : Obj) : Hd (w.alloc o) N neg a l c xs z := h.below (below_alloc w o)
theorem Hd.new {w : World} {neg : Bool} {a : Option Addr} {l c : Nat} {xs : List Nat} {z : Int} (h : Out w neg a l c xs z) (t : TypeId) : Hd (w.alloc (.cells #[.bool neg, .slice a l c] t)) w.heap.size neg a l c xs z :=
  ⟨Box2.new w neg a l c t, h.sl.below (below_alloc w _), h.ok, h.le, h.num⟩
theorem Hd.abs {w : World} {N : Nat} {neg : Bool} {a : Option Addr} {l c : Nat} {xs : List Nat} {z : Int} (h : Hd w N neg a l c xs z) : val xs = z.natAbs := by rw [← h.num, zv_abs]
theorem Out.abs {w : World} {neg : Bool} {a : Option Addr} {l c : Nat} {xs : List Nat} {z : Int} (h : Out w neg a l c xs z) : val xs = z.natAbs := by rw [← h.num, zv_abs]
theorem IntIs.out {B : Nat} {w : World} {neg : Bool} {a : Option Addr} {n c : Nat} {z : Int} (h : IntIs B w (.agg #[.bool neg, .slice a n c]) z) (hz : z.natAbs < pw 256) : ∃ xs, Out w neg a n c xs z := by
  obtain ⟨_, _, _, _, xs, e, ho, ok, t, hn, hz'⟩ := h
  cases e
  exact ⟨xs, ho.sl, ok, Tr_len_le t 256 (by rw [← zv_abs neg (val xs), ← hz']; exact hz), hz'.symm, t, fun h => (hn h).1⟩
theorem SumRes.out {B : Nat} {w : World} {neg : Bool} {a : Option Addr} {n c : Nat} {k z : Int} {x y : Nat} (h : SumRes B w (.agg #[.bool neg, .slice a n c]) k x y z) (hx : x < pw 256) (hy : y < pw 256) (hz : z.natAbs < pw 256) : k = 0 ∧ ∃ xs, Out w neg a n c xs z := by
  rcases h with ⟨h, _⟩ | ⟨_, ⟨_, h1, h2⟩ | ⟨h, _⟩⟩
  · omega
  · exact ⟨h1, h2.out hz⟩
  · omega
theorem zv_eq {na nb : Bool} {x y : Nat} (h : zv na x = zv nb y) : x = y ∧ (x ≠ 0 → na = nb) := by
  have h1 := zv_abs na x
  have h2 := zv_abs nb y
  rw [h] at h1
  refine ⟨by omega, fun h0 => ?_⟩
  obtain rfl : x = y := by omega
  cases na <;> cases nb <;> simp [zv] at h ⊢ <;> omega
theorem same_true {na nb : Bool} {xs ys : List Nat} (fx : Fm na xs) (fy : Fm nb ys) (ox : okw xs) (oy : okw ys) (h : zv na (val xs) = zv nb (val ys)) : sameB na nb xs ys = true := by
  obtain ⟨hv, hn⟩ := zv_eq h
  obtain rfl := Tr_inj ox oy fx.tr fy.tr hv
  unfold sameB
  simp only [and_true, decide_eq_true_eq]
  cases xs with
  | nil => rw [fx.nn rfl, fy.nn rfl]
  | cons x xs =>
    apply hn
    intro h0
    have := (Tr_zero fx.tr).1 h0
    simp at this

section
variable {na nb : Bool} {ax ay : Option Addr} {nx cx ny cy N M : Nat} {xs ys : List Nat} {w : World} {x y : Int}
theorem lsumH (hx : Hd w N na ax nx cx xs x) (hy : Hd w M nb ay ny cy ys y) (bx : x.natAbs < pw 256) (by_ : y.natAbs < pw 256) (bz : (x + y).natAbs < pw 256) :
    Calls Try.prog 10 #[.agg #[.bool na, .slice ax nx cx], .agg #[.bool nb, .slice ay ny cy]] w fun e w' => ∃ neg a l c zs, e = .returned (.tuple #[.agg #[.bool neg, .slice a l c], .bool true]) ∧ Out w' neg a l c zs (x + y) ∧ Below w.heap.size w w' := by
  have h1 := hx.le
  have h2 := hy.le
  refine (lsum_any na nb ax ay nx cx ny cy xs ys w hx.sl hy.sl hx.ok hy.ok (by omega) (by omega)).mono ?_
  rintro e w' ⟨neg, a, n, cap, k, rfl, hs, hb⟩
  rw [hx.num, hy.num, hx.abs, hy.abs] at hs
  obtain ⟨rfl, zs, ho⟩ := hs.out bx by_ bz
  exact ⟨_, _, _, _, zs, rfl, ho, hb⟩
theorem ltimesH (hx : Hd w N na ax nx cx xs x) (hy : Hd w M nb ay ny cy ys y) (bx : x.natAbs < pw 256) (by_ : y.natAbs < pw 256) (bz : (x * y).natAbs < pw 256) :
    Calls Try.prog 9 #[.agg #[.bool na, .slice ax nx cx], .agg #[.bool nb, .slice ay ny cy]] w fun e w' => ∃ neg a l c zs, e = .returned (.tuple #[.agg #[.bool neg, .slice a l c], .bool true]) ∧ Out w' neg a l c zs (x * y) ∧ Below w.heap.size w w' := by
  have h1 := hx.le
  have h2 := hy.le
  refine (ltimes_any na nb ax ay nx cx ny cy xs ys w hx.sl hy.sl hx.ok hy.ok (by omega) (by omega)).mono ?_
  rintro e w' ⟨neg, a, n, cap, k, rfl, hs, hb⟩
  rw [hx.num, hy.num, hx.abs, hy.abs] at hs
  obtain ⟨rfl, zs, ho⟩ := hs.out bx by_ bz
  exact ⟨_, _, _, _, zs, rfl, ho, hb⟩
theorem addH {sx : Sl .u32 w (.slice ax nx cx) xs} {sy : Sl .u32 w (.slice ay ny cy) ys} {ox : okw xs} {oy : okw ys} {lx : xs.length ≤ 256} {ly : ys.length ≤ 256} (ex : zv na (val xs) = x) (ey : zv nb (val ys) = y) (bx : x.natAbs < pw 256) (by_ : y.natAbs < pw 256) (bz : (x + y).natAbs < pw 256) :
    Calls Try.prog 15 #[.agg #[.bool na, .slice ax nx cx], .agg #[.bool nb, .slice ay ny cy]] w fun e w' => ∃ neg a l c zs, e = .returned (.tuple #[.agg #[.bool neg, .slice a l c], .int .i64 0]) ∧ Out w' neg a l c zs (x + y) ∧ Below w.heap.size w w' := by
  refine (add_any na nb ax ay nx cx ny cy xs ys w sx sy ox oy (by omega) (by omega)).mono ?_
  rintro e w' ⟨neg, a, n, cap, k, rfl, hs, hb⟩
  have e1 : val xs = x.natAbs := by rw [← ex, zv_abs]
  have e2 : val ys = y.natAbs := by rw [← ey, zv_abs]
  rw [ex, ey, e1, e2] at hs
  obtain ⟨rfl, zs, ho⟩ := hs.out bx by_ bz
  exact ⟨_, _, _, _, zs, rfl, ho, hb⟩
theorem mulH {sx : Sl .u32 w (.slice ax nx cx) xs} {sy : Sl .u32 w (.slice ay ny cy) ys} {ox : okw xs} {oy : okw ys} {lx : xs.length ≤ 256} {ly : ys.length ≤ 256} (ex : zv na (val xs) = x) (ey : zv nb (val ys) = y) (bx : x.natAbs < pw 256) (by_ : y.natAbs < pw 256) (bz : (x * y).natAbs < pw 256) :
    Calls Try.prog 26 #[.agg #[.bool na, .slice ax nx cx], .agg #[.bool nb, .slice ay ny cy]] w fun e w' => ∃ neg a l c zs, e = .returned (.tuple #[.agg #[.bool neg, .slice a l c], .int .i64 0]) ∧ Out w' neg a l c zs (x * y) ∧ Below w.heap.size w w' := by
  refine (mul_any na nb ax ay nx cx ny cy xs ys w sx sy ox oy (by omega) (by omega)).mono ?_
  rintro e w' ⟨neg, a, n, cap, k, rfl, hs, hb⟩
  have e1 : val xs = x.natAbs := by rw [← ex, zv_abs]
  have e2 : val ys = y.natAbs := by rw [← ey, zv_abs]
  rw [ex, ey, e1, e2] at hs
  obtain ⟨rfl, zs, ho⟩ := hs.out bx by_ bz
  exact ⟨_, _, _, _, zs, rfl, ho, hb⟩
theorem sameH (hx : Hd w N na ax nx cx xs x) (hy : Hd w M nb ay ny cy ys y) (fx : Fm na xs) (fy : Fm nb ys) (h : x = y) :
    Calls Try.prog 13 #[.agg #[.bool na, .slice ax nx cx], .agg #[.bool nb, .slice ay ny cy]] w fun e w' => e = .returned (.bool true) ∧ Below w.heap.size w w' := by
  have h1 := hx.le
  refine (same_any na nb ax ay nx cx ny cy xs ys w hx.sl hy.sl (by omega)).mono ?_
  rintro e w' ⟨rfl, hb⟩
  rw [same_true fx fy hx.ok hy.ok (by rw [hx.num, hy.num, h])]
  exact ⟨rfl, hb⟩
theorem cmpH (hx : Hd w N na ax nx cx xs x) (hy : Hd w M nb ay ny cy ys y) :
    Calls Try.prog 7 #[.agg #[.bool na, .slice ax nx cx], .agg #[.bool nb, .slice ay ny cy]] w fun e w' => e = .returned (.int .i64 (cmpI x y)) ∧ Below w.heap.size w w' := by
  have h1 := hx.le
  have h2 := hy.le
  refine (compare_any na nb ax ay nx cx ny cy xs ys w hx.sl hy.sl hx.ok hy.ok (by omega) (by omega)).mono ?_
  rintro e w' ⟨rfl, hb⟩
  rw [hx.num, hy.num]
  exact ⟨rfl, hb⟩
end
theorem ofH (v : Int) (w : World) (hv : v.natAbs < pw 256) (h1 : -9223372036854775808 ≤ v) (h2 : v ≤ 9223372036854775807) :
    Calls Try.prog 12 #[.int .i64 v] w fun e w' => ∃ neg a l c zs, e = .returned (.agg #[.bool neg, .slice a l c]) ∧ Out w' neg a l c zs v ∧ Below w.heap.size w w' := by
  refine (of_any v w h1 h2).mono ?_
  rintro e w' ⟨neg, a, n, cap, rfl, hI, hb⟩
  obtain ⟨zs, ho⟩ := hI.out hv
  exact ⟨_, _, _, _, zs, rfl, ho, hb⟩
theorem negH {na : Bool} {ax : Option Addr} {nx cx : Nat} {xs : List Nat} {w : World} {x : Int} (sx : Sl .u32 w (.slice ax nx cx) xs) (ox : okw xs) (lx : xs.length ≤ 256) (ex : zv na (val xs) = x) (bx : x.natAbs < pw 256) :
    Calls Try.prog 14 #[.agg #[.bool na, .slice ax nx cx]] w fun e w' => ∃ neg a l c zs, e = .returned (.agg #[.bool neg, .slice a l c]) ∧ Out w' neg a l c zs (-x) ∧ Below w.heap.size w w' := by
  refine (negate_any na ax nx cx xs w sx ox (by omega)).mono ?_
  rintro e w' ⟨neg, a, n, cap, rfl, hI, hb⟩
  rw [ex] at hI
  obtain ⟨zs, ho⟩ := hI.out (by rw [Int.natAbs_neg]; exact bx)
  exact ⟨_, _, _, _, zs, rfl, ho, hb⟩
end Go.Proofs.Yteplmnnpmekngab
