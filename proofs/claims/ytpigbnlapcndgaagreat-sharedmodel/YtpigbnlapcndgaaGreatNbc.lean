/-
  Ints that lie in boxes, where the seat has no sums.
  The reference: trim, made, Form, long.
  The reference: made, Form, Negate, long, kept.
  The reference: Of; and Small, both of them.
  The reference: Small.
  Words that become hashes: rotations, what stands for -1, and Number, of the code and of the reference.
-/
import Derived.Test.YtpigbnlapcndgaaGreatNbb
namespace Go.Proofs.YtpigbnlapcndgaaGreat
open Go.RowKit

/-- An Int in its box, of the number z. -/
structure Hd (w : World) (N : Nat) (neg : Bool) (a : Option Addr) (l c : Nat) (xs : List Nat) (z : Int) : Prop where
  box : Box2 w N neg a l c
  sl : Sl .u32 w (.slice a l c) xs
  ok : okw xs
  le : xs.length ≤ 256
  num : zv neg (val xs) = z
/-- Words and sign in their one form. -/
structure Fm (neg : Bool) (xs : List Nat) : Prop where
  tr : Tr xs
  nn : xs = [] → neg = false
/-- An Int that was answered. -/
structure Out (w : World) (neg : Bool) (a : Option Addr) (l c : Nat) (xs : List Nat) (z : Int) : Prop where
  sl : Sl .u32 w (.slice a l c) xs
  ok : okw xs
  le : xs.length ≤ 256
  num : zv neg (val xs) = z
  fm : Fm neg xs
theorem below_alloc (w : World) (o : Obj) : Below w.heap.size w (w.alloc o) := (Below.refl _ _).alloc (Nat.le_refl _) _
theorem Hd.below {w w' : World} {N : Nat} {neg : Bool} {a : Option Addr} {l c : Nat} {xs : List Nat} {z : Int} (h : Hd w N neg a l c xs z) (hb : Below w.heap.size w w') : Hd w' N neg a l c xs z :=
  ⟨h.box.below hb, h.sl.below hb, h.ok, h.le, h.num⟩
theorem Out.below {w w' : World} {neg : Bool} {a : Option Addr} {l c : Nat} {xs : List Nat} {z : Int} (h : Out w neg a l c xs z) (hb : Below w.heap.size w w') : Out w' neg a l c xs z :=
  ⟨h.sl.below hb, h.ok, h.le, h.num, h.fm⟩
theorem Hd.alloc {w : World} {N : Nat} {neg : Bool} {a : Option Addr} {l c : Nat} {xs : List Nat} {z : Int} (h : Hd w N neg a l c xs z) (o : Obj) : Hd (w.alloc o) N neg a l c xs z := h.below (below_alloc w o)
theorem Hd.new {w : World} {neg : Bool} {a : Option Addr} {l c : Nat} {xs : List Nat} {z : Int} (h : Out w neg a l c xs z) (t : TypeId) : Hd (w.alloc (.cells #[.bool neg, .slice a l c] t)) w.heap.size neg a l c xs z :=
  ⟨Box2.new w neg a l c t, h.sl.below (below_alloc w _), h.ok, h.le, h.num⟩
theorem Hd.abs {w : World} {N : Nat} {neg : Bool} {a : Option Addr} {l c : Nat} {xs : List Nat} {z : Int} (h : Hd w N neg a l c xs z) : val xs = z.natAbs := by rw [← h.num, zv_abs]
theorem Out.abs {w : World} {neg : Bool} {a : Option Addr} {l c : Nat} {xs : List Nat} {z : Int} (h : Out w neg a l c xs z) : val xs = z.natAbs := by rw [← h.num, zv_abs]
theorem IntIs.out {B : Nat} {w : World} {neg : Bool} {a : Option Addr} {n c : Nat} {z : Int} (h : IntIs B w (.agg #[.bool neg, .slice a n c]) z) (hz : z.natAbs < pw 256) : ∃ xs, Out w neg a n c xs z := by
  obtain ⟨_, _, _, _, xs, e, ho, ok, t, hn, hz'⟩ := h
  cases e
  exact ⟨xs, ho.sl, ok, Tr_len_le t 256 (by rw [← zv_abs neg (val xs), ← hz']; exact hz), hz'.symm, t, fun h => (hn h).1⟩
theorem zv_eq {na nb : Bool} {x y : Nat} (h : zv na x = zv nb y) : x = y ∧ (x ≠ 0 → na = nb) := by
  have h1 := zv_abs na x
  have h2 := zv_abs nb y
  rw [h] at h1
  refine ⟨by omega, fun h0 => ?_⟩
  obtain rfl : x = y := by omega
  cases na <;> cases nb <;> simp [zv] at h ⊢ <;> omega
theorem boxes2 (w : World) (n0 n1 : Bool) (a0 a1 : Option Addr) (l0 c0 l1 c1 : Nat) (t : TypeId) :
    let W := (w.alloc (.cells #[.bool n0, .slice a0 l0 c0] t)).alloc (.cells #[.bool n1, .slice a1 l1 c1] t)
    Box2 W w.heap.size n0 a0 l0 c0 ∧ Box2 W (w.heap.size + 1) n1 a1 l1 c1 ∧ Below w.heap.size w W := by
  intro W
  refine ⟨(Box2.new w n0 a0 l0 c0 t).below ((Below.refl _ _).alloc (Nat.le_refl _) _), ?_, ((Below.refl w.heap.size w).alloc (Nat.le_refl _) _).alloc (by simp) _⟩
  have := Box2.new (w.alloc (.cells #[.bool n0, .slice a0 l0 c0] t)) n1 a1 l1 c1 t
  simpa using this
theorem IntIs.form {B : Nat} {w : World} {v : Value} {z : Int} (h : IntIs B w v z) : ∃ neg a n cap, v = .agg #[.bool neg, .slice a n cap] := by
  obtain ⟨neg, a, n, cap, xs, e, _⟩ := h
  exact ⟨neg, a, n, cap, e⟩
theorem zv_not (a : Bool) (x : Nat) : zv (!a) x = - zv a x := by
  unfold zv; cases a <;> simp

theorem Sl.place {k : IntKind} {w : World} {a : Option Addr} {n c : Nat} {zs : List Nat} (h : Sl k w (.slice a n c) zs) : ∃ b off, (zs ≠ [] → a = some ⟨b, off, none⟩ ∧ b < w.heap.size) ∧ Seg k w b off zs := by
  rcases h.cases with ⟨rfl, _⟩ | ⟨_, b, off, cap', e, _, hs, hl⟩
  · exact ⟨0, 0, fun h => absurd rfl h, fun j hj => by simp at hj⟩
  · injection e with e1
    exact ⟨b, off, fun _ => ⟨e1, hl⟩, hs⟩
end Go.Proofs.YtpigbnlapcndgaaGreat
namespace Go.Proofs.YtpigbnlapcndgaaGreat
open Go.RowKit

/-- Words in a row of their own, from block B on. -/
def Words (B : Nat) (w : World) (v : Value) (ts : List Nat) : Prop := w.ownsRow B 125 1 v ts.length (ts.map fun x : Nat => Value.int .u32 (x : Int))
theorem Words.ow {B : Nat} {w : World} {v : Value} {ts : List Nat} (h : Words B w v ts) : Ow .u32 B w v ts := ow_of_row h
theorem Words.alloc {B : Nat} {w : World} {v : Value} {ts : List Nat} (h : Words B w v ts) (o : Obj) : Words B (w.alloc o) v ts := World.ownsRow.alloc h o
theorem Words.nil (B : Nat) (w : World) : Words B w (.slice none 0 0) [] := ⟨rfl, Or.inl ⟨rfl, rfl⟩⟩

theorem rtrim_fin {xs : List Nat} {w w1 : World} {v v' : Value} {m : Nat} {ys : List Nat} (hv : v = .slice none 0 0) (hm : m = ys.length) (hys : ys = trimL xs) (h1 : w1.ownsRow w.heap.size 125 1 v' (0 + m) ([] ++ ys.map fun x : Nat => Value.int .u32 (x : Int))) (h2 : w.grownBy w1 v.ownBlock) (h3 : v' = .slice none 0 0 ↔ v = .slice none 0 0 ∧ m = 0) :
    Hid (Words w.heap.size w1 v' (trimL xs) ∧ (trimL xs = [] → v' = .slice none 0 0) ∧ Below w.heap.size w w1) := by
  subst hys; subst hm; subst hv
  show _ ∧ _ ∧ _
  refine ⟨?_, fun h => h3.2 ⟨rfl, ?_⟩, (Below.refl w.heap.size w).grown h2 (Nat.le_refl _) (fun k e => by cases e)⟩
  · unfold Words; simpa using h1
  · rw [h]; rfl

end Go.Proofs.YtpigbnlapcndgaaGreat
namespace Go.Proofs.YtpigbnlapcndgaaGreat
open Go.RowKit

theorem long_iff {xs : List Nat} (ox : okw xs) : decide (256 < tl xs xs.length) = decide (pw 256 ≤ val xs) := by
  have h := len_le_iff (Tr_trimL xs) (okw_trimL ox) 256
  rw [trimL_length, val_trimL] at h
  simp only [decide_eq_decide]
  omega

theorem IntIs.open {B : Nat} {w : World} {neg : Bool} {a : Option Addr} {n c : Nat} {z : Int} (h : IntIs B w (.agg #[.bool neg, .slice a n c]) z) : ∃ xs, Ow .u32 B w (.slice a n c) xs ∧ okw xs ∧ Fm neg xs ∧ zv neg (val xs) = z := by
  obtain ⟨_, _, _, _, xs, e, ho, ok, t, hn, hz'⟩ := h
  cases e
  exact ⟨xs, ho, ok, ⟨t, fun h => (hn h).1⟩, hz'.symm⟩

end Go.Proofs.YtpigbnlapcndgaaGreat
namespace Go.Proofs.YtpigbnlapcndgaaGreat
open Go.RowKit

/-- An Int as an int, if it is one. -/
def smallOk (z : Int) : Bool := decide (-9223372036854775808 ≤ z ∧ z ≤ 9223372036854775807)
def smallZ (z : Int) : Int := if -9223372036854775808 ≤ z ∧ z ≤ 9223372036854775807 then z else 0
theorem or_low (L A s : Nat) (hA : A % 2 ^ s = 0) (hA1 : A < 18446744073709551616) (hL : L < 2 ^ s) (hL1 : L < 18446744073709551616) : bits BinOp.or IntKind.u64 (L : Int) (A : Int) = ((A + L : Nat) : Int) := by
  have hc : bits BinOp.or IntKind.u64 (L : Int) (A : Int) = bits BinOp.or IntKind.u64 (A : Int) (L : Int) := by simp only [bits, BitVec.or_comm]
  rw [hc]
  exact or_shift A L s hA hA1 hL hL1
theorem val_bound {xs : List Nat} (o : okw xs) (t : Tr xs) : xs.length ≤ 2 ↔ val xs < 18446744073709551616 := by
  have h := len_le_iff t o 2
  rw [show pw 2 = 18446744073709551616 from rfl] at h
  exact h
theorem take_val {ys : List Nat} (o : okw ys) (k : Nat) (hk : k < ys.length) (h2 : ys.length ≤ 2) : val (ys.take (k + 1)) = ys[k]?.getD 0 * 2 ^ (32 * k) + val (ys.take k) ∧ val (ys.take k) < 2 ^ (32 * k) ∧ ys[k]?.getD 0 * 2 ^ (32 * k) < 18446744073709551616 ∧ ys[k]?.getD 0 * 2 ^ (32 * k) % 2 ^ (32 * k) = 0 := by
  have h1 := val_take_succ ys k hk
  have h3 := val_lt (okw_take o k)
  rw [List.length_take, Nat.min_eq_left (by omega), pw_two] at h3
  rw [pw_two, Nat.mul_comm] at h1
  have h4 := okw_get o k
  refine ⟨by omega, h3, ?_, Nat.mul_mod_left _ _⟩
  rcases (show k = 0 ∨ k = 1 by omega) with rfl | rfl
  · simp; omega
  · simp; omega

end Go.Proofs.YtpigbnlapcndgaaGreat
namespace Go.Proofs.YtpigbnlapcndgaaGreat
open Go.RowKit

end Go.Proofs.YtpigbnlapcndgaaGreat
namespace Go.Proofs.YtpigbnlapcndgaaGreat
open Go.RowKit Go.Shelf

/-- A word as an int, and what stands for -1. -/
def hashed (x o : Int) : Int := if wrap64 x = -1 then o else wrap64 x

theorem plain_any (w : World) : Calls Tryz.prog 37 #[] w fun e w' => e = .returned (.int .i64 (-2)) ∧ w' = w := by
  go_enter Tryz.func37, Tryz.ntmps37
  go_wp2
  go_ret
  exact ⟨rfl, rfl⟩
theorem sealed_plain (x : Int) (w : World) :
    Calls Tryz.prog 36 #[.int .u64 x, .func (.func 37) #[] #[]] w fun e w' => e = .returned (.int .i64 (hashed x (-2))) ∧ w' = w := by
  unfold hashed
  by_cases h : wrap64 x = -1
  · rw [if_pos h]
    have h2 : (wrap64 x == -1) = true := by simpa using h
    go_enter Tryz.func36, Tryz.ntmps36
    go_wp2_with (go_at_call 37; refine (plain_any _).mono ?_; rintro e w' ⟨rfl, rfl⟩)
    go_ret
    exact ⟨rfl, rfl⟩
  · rw [if_neg h]
    have h2 : (wrap64 x == -1) = false := by simpa using h
    go_enter Tryz.func36, Tryz.ntmps36
    go_wp2_with (go_at_call 37; refine (plain_any _).mono ?_; rintro e w' ⟨rfl, rfl⟩)
    go_ret
    exact ⟨rfl, rfl⟩

end Go.Proofs.YtpigbnlapcndgaaGreat
