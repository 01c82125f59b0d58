/-
  Plain mathematics of rows of words of 32 bits, the lowest first: their value, their trimmed form, their order. No program, no world.
  Rows of words in memory: what a slice holds, what is the call's own, and how that stands behind later steps. No program.
  What math/bits' Len64, LeadingZeros64 do.
  What math/bits' Div64 does: its rest.
  What the leaf functions of package whole do: trim, isLong, cmp.Compare, sign.
  A loop over slices.Backward of a row of words: what the caller owes, in terms of a state of its own: the loop's body may write the very row that it goes through.
  What compareWords does: the order of two trimmed rows of words.
  What Compare does: the order of two Ints' values.
  What slices.Clone, formed and checked do.
  What Rest of package whole does.
  What addInto and addWords do.
  What Rest of the reference does.
  Ints that lie in boxes, where the seat has no sums.
  The reference: trim, made, Form, long.
  The reference: made, Form, Negate, long, kept.
  The reference: Of; and Small, both of them.
  The reference: Small.
  Words that become hashes: rotations, what stands for -1, and Number, of the code and of the reference.
  Text, of the code and of the reference.
-/
import Derived.WalkKit
import Derived.Test.YtcbhpjpkjmlcnaaGreatRows
import Derived.Deep.CutRange
import Derived.Deep.CutBlock
import Derived.Laws.MathBits
import Derived.RangeFuncNested
import Derived.RangeFuncBound
import Derived.RangeFuncCalls
import Derived.RangeFuncLeaves
import Derived.Shelf.Abstract
import Derived.OwnWalkIn
import Derived.TacticsInMore
import Derived.LoopNIn
import Derived.LoopIn
import Derived.Deep.RegionHeld3
import Derived.Deep.Cut
import Derived.Laws.AppendOwnNone
import Derived.Lib.SliceRun
import Derived.WideShapes
import Derived.Laws.CopyOwn
namespace Go.Proofs.YtcbhpjpkjmlcnaaGreat

/-- The powers of 2^32. -/
def pw : Nat → Nat
  | 0 => 1
  | k + 1 => 4294967296 * pw k
theorem pw_pos (k : Nat) : 0 < pw k := by
  induction k with
  | zero => simp [pw]
  | succ k ih => simp only [pw]; omega
theorem pw_add (a b : Nat) : pw (a + b) = pw a * pw b := by
  induction a with
  | zero => simp [pw]
  | succ a ih => rw [Nat.succ_add, pw, pw, ih, Nat.mul_assoc]
theorem pw_mono {a b : Nat} (h : a ≤ b) : pw a ≤ pw b := by
  obtain ⟨c, rfl⟩ := Nat.exists_eq_add_of_le h
  rw [pw_add]
  exact Nat.le_mul_of_pos_right _ (pw_pos c)
theorem pw_lt {a b : Nat} (h : pw a < pw b) : a < b := by
  refine Nat.lt_of_not_le fun hb => ?_
  have := pw_mono hb
  omega

def val : List Nat → Nat
  | [] => 0
  | x :: xs => x + 4294967296 * val xs
def okw (xs : List Nat) : Prop := ∀ x ∈ xs, x < 4294967296
theorem okw_nil : okw [] := fun _ h => by cases h
theorem okw_cons {x : Nat} {xs : List Nat} : okw (x :: xs) ↔ x < 4294967296 ∧ okw xs := by simp [okw]
theorem okw_take {xs : List Nat} (h : okw xs) (k : Nat) : okw (xs.take k) := fun x hx => h x (List.mem_of_mem_take hx)
theorem okw_append {xs ys : List Nat} : okw (xs ++ ys) ↔ okw xs ∧ okw ys := by
  simp only [okw, List.mem_append]
  exact ⟨fun h => ⟨fun x hx => h x (Or.inl hx), fun x hx => h x (Or.inr hx)⟩, fun h x hx => hx.elim (h.1 x) (h.2 x)⟩
theorem okw_get {xs : List Nat} (h : okw xs) (k : Nat) : xs[k]?.getD 0 < 4294967296 := by
  rcases Nat.lt_or_ge k xs.length with hk | hk
  · rw [List.getElem?_eq_getElem hk]; exact h _ (List.getElem_mem hk)
  · rw [List.getElem?_eq_none hk]; simp
theorem val_append (xs ys : List Nat) : val (xs ++ ys) = val xs + pw xs.length * val ys := by
  induction xs with
  | nil => simp [val, pw]
  | cons x xs ih => simp only [List.cons_append, val, List.length_cons, pw]; rw [ih, Nat.mul_add, Nat.mul_assoc]; omega
theorem val_lt {xs : List Nat} (h : okw xs) : val xs < pw xs.length := by
  induction xs with
  | nil => simp [val, pw]
  | cons x xs ih =>
    have h1 := ih (okw_cons.1 h).2
    have h2 := (okw_cons.1 h).1
    simp only [val, List.length_cons, pw]
    omega
theorem take_succ_get (xs : List Nat) (k : Nat) (h : k < xs.length) : xs.take (k + 1) = xs.take k ++ [xs[k]?.getD 0] := by
  rw [List.take_succ_eq_append_getElem h, List.getElem?_eq_getElem h]; rfl
theorem val_take_succ (xs : List Nat) (k : Nat) (h : k < xs.length) : val (xs.take (k + 1)) = val (xs.take k) + pw k * (xs[k]?.getD 0) := by
  rw [take_succ_get xs k h, val_append, List.length_take, Nat.min_eq_left (by omega)]
  simp [val]
theorem val_replicate (n : Nat) : val (List.replicate n 0) = 0 := by
  induction n with
  | zero => rfl
  | succ n ih => simp [List.replicate_succ, val, ih]

/-- Without noughts at the end. -/
def Tr (xs : List Nat) : Prop := xs.length = 0 ∨ xs[xs.length - 1]?.getD 0 ≠ 0
def tl (zs : List Nat) : Nat → Nat
  | 0 => 0
  | k + 1 => if zs[k]?.getD 0 = 0 then tl zs k else k + 1
def trimL (xs : List Nat) : List Nat := xs.take (tl xs xs.length)
theorem tl_le (zs : List Nat) (k : Nat) : tl zs k ≤ k := by
  induction k with
  | zero => simp [tl]
  | succ k ih => simp only [tl]; split <;> omega
theorem tl_pos (zs : List Nat) (k : Nat) : tl zs k = 0 ∨ zs[tl zs k - 1]?.getD 0 ≠ 0 := by
  induction k with
  | zero => simp [tl]
  | succ k ih =>
    simp only [tl]
    split
    · exact ih
    · right; simpa using ‹¬ _›
theorem val_tl (zs : List Nat) (k : Nat) (h : k ≤ zs.length) : val (zs.take (tl zs k)) = val (zs.take k) := by
  induction k with
  | zero => simp [tl]
  | succ k ih =>
    simp only [tl]
    split
    · rename_i h0
      rw [ih (by omega), val_take_succ zs k (by omega), h0]; simp
    · rfl
theorem trimL_length (xs : List Nat) : (trimL xs).length = tl xs xs.length := by
  have := tl_le xs xs.length
  simp [trimL]; omega
theorem trimL_le (xs : List Nat) : (trimL xs).length ≤ xs.length := by rw [trimL_length]; exact tl_le _ _
theorem val_trimL (xs : List Nat) : val (trimL xs) = val xs := by
  have := val_tl xs xs.length (Nat.le_refl _)
  simpa [trimL] using this
theorem Tr_trimL (xs : List Nat) : Tr (trimL xs) := by
  have hl := tl_le xs xs.length
  unfold Tr
  rw [trimL_length]
  rcases tl_pos xs xs.length with h | h
  · exact Or.inl h
  · by_cases h0 : tl xs xs.length = 0
    · exact Or.inl h0
    · right
      rw [trimL, List.getElem?_take_of_lt (by omega)]
      exact h
theorem okw_trimL {xs : List Nat} (h : okw xs) : okw (trimL xs) := okw_take h _
theorem tl_Tr {xs : List Nat} (h : Tr xs) : tl xs xs.length = xs.length := by
  rcases h with h | h
  · rw [h]; rfl
  · cases hk : xs.length with
    | zero => rfl
    | succ k => rw [hk] at h; simp only [tl]; rw [if_neg (by simpa using h)]
theorem trimL_Tr {xs : List Nat} (h : Tr xs) : trimL xs = xs := by rw [trimL, tl_Tr h]; simp
theorem Tr_ge {xs : List Nat} (h : Tr xs) (h0 : xs.length ≠ 0) : pw (xs.length - 1) ≤ val xs := by
  obtain ⟨k, hk⟩ : ∃ k, xs.length = k + 1 := ⟨xs.length - 1, by omega⟩
  have e := val_take_succ xs k (by omega)
  rw [← hk, List.take_length] at e
  rcases h with h | h
  · omega
  · rw [hk] at h
    simp only [Nat.add_sub_cancel] at h
    rw [hk, e]
    simp only [Nat.add_sub_cancel]
    have := Nat.le_mul_of_pos_right (pw k) (Nat.pos_of_ne_zero h)
    omega
theorem Tr_len_lt {xs ys : List Nat} (h : Tr ys) (hx : okw xs) (hl : xs.length < ys.length) : val xs < val ys := by
  have h1 := val_lt hx
  have h2 := Tr_ge h (by omega)
  have h3 := pw_mono (show xs.length ≤ ys.length - 1 by omega)
  omega
theorem Tr_zero {xs : List Nat} (h : Tr xs) : val xs = 0 ↔ xs.length = 0 := by
  constructor
  · intro h0
    refine Decidable.byContradiction fun hn => ?_
    have := Tr_ge h hn
    have := pw_pos (xs.length - 1)
    omega
  · intro h0
    obtain rfl : xs = [] := List.eq_nil_of_length_eq_zero h0
    rfl
/-- A row of at most k words has a value below the k-th power; a trimmed one at or above it has more words. -/
theorem Tr_len_le {xs : List Nat} (h : Tr xs) (k : Nat) (hv : val xs < pw k) : xs.length ≤ k := by
  refine Nat.le_of_not_lt fun hl => ?_
  have h1 := Tr_ge h (by omega)
  have h2 := pw_mono (show k ≤ xs.length - 1 by omega)
  omega
theorem len_le_iff {xs : List Nat} (h : Tr xs) (hx : okw xs) (k : Nat) : xs.length ≤ k ↔ val xs < pw k :=
  ⟨fun hl => Nat.lt_of_lt_of_le (val_lt hx) (pw_mono hl), Tr_len_le h k⟩

/-- The order of two rows of one length is told by the highest word in which they part. -/
theorem val_cmp {xs ys : List Nat} (hx : okw xs) (hl : xs.length = ys.length) (i : Nat) (hi : i < xs.length)
    (hsame : ∀ j, i < j → j < xs.length → xs[j]?.getD 0 = ys[j]?.getD 0) (hlt : xs[i]?.getD 0 < ys[i]?.getD 0) : val xs < val ys := by
  have base : val (xs.take (i + 1)) < val (ys.take (i + 1)) := by
    rw [val_take_succ xs i hi, val_take_succ ys i (by omega)]
    have h1 := val_lt (okw_take hx i)
    rw [List.length_take, Nat.min_eq_left (by omega)] at h1
    have h2 : pw i * (xs[i]?.getD 0 + 1) ≤ pw i * (ys[i]?.getD 0) := Nat.mul_le_mul_left _ hlt
    rw [Nat.mul_add] at h2
    omega
  have up : ∀ m, i + 1 + m ≤ xs.length → val (xs.take (i + 1 + m)) < val (ys.take (i + 1 + m)) := by
    intro m
    induction m with
    | zero => intro _; exact base
    | succ m ih =>
      intro hm
      have := ih (by omega)
      rw [← Nat.add_assoc, val_take_succ xs _ (by omega), val_take_succ ys _ (by omega), hsame (i + 1 + m) (by omega) (by omega)]
      omega
  have h := up (xs.length - (i + 1)) (by omega)
  rw [show i + 1 + (xs.length - (i + 1)) = xs.length by omega] at h
  rw [List.take_length] at h
  rwa [hl, List.take_length] at h
theorem ext_get {xs ys : List Nat} (hl : xs.length = ys.length) (h : ∀ j, j < xs.length → xs[j]?.getD 0 = ys[j]?.getD 0) : xs = ys := by
  apply List.ext_getElem hl
  intro i h1 h2
  have := h i h1
  rw [List.getElem?_eq_getElem h1, List.getElem?_eq_getElem h2] at this
  simpa using this
theorem val_inj_len {xs ys : List Nat} (hx : okw xs) (hy : okw ys) (hl : xs.length = ys.length) (hv : val xs = val ys) : xs = ys := by
  induction xs generalizing ys with
  | nil => exact (List.eq_nil_of_length_eq_zero (by simpa using hl.symm)).symm
  | cons x xs ih =>
    cases ys with
    | nil => simp at hl
    | cons y ys =>
      simp only [val] at hv
      have h1 := (okw_cons.1 hx).1
      have h2 := (okw_cons.1 hy).1
      have e1 : x = y := by omega
      have e2 : val xs = val ys := by omega
      rw [e1, ih (okw_cons.1 hx).2 (okw_cons.1 hy).2 (by simpa using hl) e2]
theorem Tr_inj {xs ys : List Nat} (hx : okw xs) (hy : okw ys) (tx : Tr xs) (ty : Tr ys) (hv : val xs = val ys) : xs = ys := by
  refine val_inj_len hx hy ?_ hv
  rcases Nat.lt_trichotomy xs.length ys.length with h | h | h
  · have := Tr_len_lt ty hx h; omega
  · exact h
  · have := Tr_len_lt tx hy h; omega
/-- -1, 0 or 1, as a number is below another, is it, or is above. -/
def cmpN (a b : Nat) : Int := if a < b then -1 else if b < a then 1 else 0
end Go.Proofs.YtcbhpjpkjmlcnaaGreat
namespace Go.Proofs.YtcbhpjpkjmlcnaaGreat
open Go.RowKit

/-- The cells at ⟨b, off⟩ hold these numbers. -/
def Seg (k : IntKind) (w : World) (b off : Nat) (xs : List Nat) : Prop :=
  ∀ j, j < xs.length → w.cell? ⟨b, off + j, none⟩ = some (.int k ((xs[j]?.getD 0 : Nat) : Int))
/-- None of the n cells at ⟨b, off⟩ is frozen. -/
def Free (w : World) (b off n : Nat) : Prop := ∀ j, j < n → w.frozen? ⟨b, off + j, none⟩ = false
/-- The slice v holds these numbers. -/
def Sl (k : IntKind) (w : World) (v : Value) (xs : List Nat) : Prop :=
  ∃ a cap, v = .slice a xs.length cap ∧ xs.length ≤ cap ∧ (xs ≠ [] → ∃ b off, a = some ⟨b, off, none⟩ ∧ Seg k w b off xs)
/-- .. in blocks from number B on, and may be written. -/
def Ow (k : IntKind) (B : Nat) (w : World) (v : Value) (xs : List Nat) : Prop :=
  ∃ a cap, v = .slice a xs.length cap ∧ xs.length ≤ cap ∧ (xs ≠ [] → ∃ b off, a = some ⟨b, off, none⟩ ∧ B ≤ b ∧ Seg k w b off xs ∧ Free w b off xs.length)
theorem Ow.sl {k : IntKind} {B : Nat} {w : World} {v : Value} {xs : List Nat} (h : Ow k B w v xs) : Sl k w v xs := by
  obtain ⟨a, cap, e, hc, h⟩ := h
  exact ⟨a, cap, e, hc, fun hn => by obtain ⟨b, off, e1, _, h2, _⟩ := h hn; exact ⟨b, off, e1, h2⟩⟩
theorem Ow.mono {k : IntKind} {B B' : Nat} {w : World} {v : Value} {xs : List Nat} (h : Ow k B w v xs) (hB : B' ≤ B) : Ow k B' w v xs := by
  obtain ⟨a, cap, e, hc, h⟩ := h
  exact ⟨a, cap, e, hc, fun hn => by obtain ⟨b, off, e1, h1, h2⟩ := h hn; exact ⟨b, off, e1, by omega, h2⟩⟩
theorem lt_of_cell {w : World} {b o : Nat} {v : Value} (h : w.cell? ⟨b, o, none⟩ = some v) : b < w.heap.size := by
  unfold World.cell? at h
  split at h
  · rename_i c e f hb
    exact (Array.getElem?_eq_some_iff.1 hb).1
  · simp at h
theorem Seg.lt {k : IntKind} {w : World} {b off : Nat} {xs : List Nat} (h : Seg k w b off xs) (hn : xs ≠ []) : b < w.heap.size := by
  have : 0 < xs.length := List.length_pos_iff.2 hn
  exact lt_of_cell (h 0 this)
theorem Seg.below {k : IntKind} {B : Nat} {w w' : World} {b off : Nat} {xs : List Nat} (h : Seg k w b off xs) (hb : Below B w w') (hlt : b < B) : Seg k w' b off xs :=
  fun j hj => (hb.cell (p := ⟨b, off + j, none⟩) hlt).trans (h j hj)
theorem Free.below {B : Nat} {w w' : World} {b off n : Nat} (h : Free w b off n) (hb : Below B w w') (hlt : b < B) : Free w' b off n :=
  fun j hj => (hb.frozen (p := ⟨b, off + j, none⟩) hlt).trans (h j hj)
theorem Sl.below {k : IntKind} {w w' : World} {v : Value} {xs : List Nat} (h : Sl k w v xs) (hb : Below w.heap.size w w') : Sl k w' v xs := by
  obtain ⟨a, cap, e, hc, h⟩ := h
  refine ⟨a, cap, e, hc, fun hn => ?_⟩
  obtain ⟨b, off, e1, h1⟩ := h hn
  exact ⟨b, off, e1, h1.below hb (h1.lt hn)⟩
theorem Ow.below {k : IntKind} {B : Nat} {w w' : World} {v : Value} {xs : List Nat} (h : Ow k B w v xs) (hb : Below w.heap.size w w') : Ow k B w' v xs := by
  obtain ⟨a, cap, e, hc, h⟩ := h
  refine ⟨a, cap, e, hc, fun hn => ?_⟩
  obtain ⟨b, off, e1, hB, h1, h2⟩ := h hn
  exact ⟨b, off, e1, hB, h1.below hb (h1.lt hn), h2.below hb (h1.lt hn)⟩
theorem Sl_nil (k : IntKind) (w : World) (a : Option Addr) (cap : Nat) : Sl k w (.slice a 0 cap) [] := ⟨a, cap, rfl, by simp, fun h => absurd rfl h⟩
theorem Ow_nil (k : IntKind) (B : Nat) (w : World) (a : Option Addr) (cap : Nat) : Ow k B w (.slice a 0 cap) [] := ⟨a, cap, rfl, by simp, fun h => absurd rfl h⟩
theorem Seg.take {k : IntKind} {w : World} {b off : Nat} {xs : List Nat} (h : Seg k w b off xs) (m : Nat) : Seg k w b off (xs.take m) := by
  intro j hj
  have hj' : j < m ∧ j < xs.length := by simpa [List.length_take, Nat.lt_min] using hj
  rw [h j hj'.2, List.getElem?_take_of_lt hj'.1]
theorem Free.le {w : World} {b off n m : Nat} (h : Free w b off n) (hm : m ≤ n) : Free w b off m := fun j hj => h j (by omega)
/-- A store into the row. -/
theorem Seg.set {k : IntKind} {w : World} {b off : Nat} {xs : List Nat} (h : Seg k w b off xs) (i : Nat) (hi : i < xs.length) (v : Nat) :
    Seg k (w.setCell ⟨b, off + i, none⟩ (.int k (v : Int))) b off (xs.set i v) := by
  intro j hj
  rw [List.length_set] at hj
  by_cases hij : j = i
  · subst hij
    rw [World.cell?_setCell_same' _ _ _ (by rw [h j hj]; rfl)]
    simp [hj]
  · rw [World.cell?_setCell_other _ _ _ _ (by intro e; injection e with e1 e2; omega), h j hj, List.getElem?_set_ne (by omega)]
theorem Free.set {w : World} {b off n : Nat} (h : Free w b off n) (p : Addr) (v : Value) : Free (w.setCell p v) b off n := by
  intro j hj
  rw [World.frozen?_setCell]
  exact h j hj
/-- Adr: an address in words: 'none' where there is nothing. -/
theorem Sl.cases {k : IntKind} {w : World} {v : Value} {xs : List Nat} (h : Sl k w v xs) :
    (xs = [] ∧ ∃ a cap, v = .slice a 0 cap) ∨ (xs ≠ [] ∧ ∃ b off cap, v = .slice (some ⟨b, off, none⟩) xs.length cap ∧ xs.length ≤ cap ∧ Seg k w b off xs ∧ b < w.heap.size) := by
  obtain ⟨a, cap, e, hc, h⟩ := h
  by_cases hn : xs = []
  · subst hn; exact Or.inl ⟨rfl, a, cap, e⟩
  · obtain ⟨b, off, e1, h1⟩ := h hn
    subst e1
    exact Or.inr ⟨hn, b, off, cap, e, hc, h1, h1.lt hn⟩
theorem Ow.cases {k : IntKind} {B : Nat} {w : World} {v : Value} {xs : List Nat} (h : Ow k B w v xs) :
    (xs = [] ∧ ∃ a cap, v = .slice a 0 cap) ∨ (xs ≠ [] ∧ ∃ b off cap, v = .slice (some ⟨b, off, none⟩) xs.length cap ∧ xs.length ≤ cap ∧ B ≤ b ∧ Seg k w b off xs ∧ Free w b off xs.length ∧ b < w.heap.size) := by
  obtain ⟨a, cap, e, hc, h⟩ := h
  by_cases hn : xs = []
  · subst hn; exact Or.inl ⟨rfl, a, cap, e⟩
  · obtain ⟨b, off, e1, hB, h1, h2⟩ := h hn
    subst e1
    exact Or.inr ⟨hn, b, off, cap, e, hc, hB, h1, h2, h1.lt hn⟩
/-- A cut at the front of what a slice holds. -/
theorem Sl.take {k : IntKind} {w : World} {a : Option Addr} {n cap : Nat} {xs : List Nat} (h : Sl k w (.slice a n cap) xs) (m : Nat) (hm : m ≤ xs.length) : Sl k w (.slice a m cap) (xs.take m) := by
  obtain ⟨a', cap', e, hc, h⟩ := h
  injection e with e1 e2 e3
  subst e1; subst e3
  refine ⟨a, cap, by simp; omega, by simp; omega, fun hn => ?_⟩
  obtain ⟨b, off, e1, h1⟩ := h (by intro h0; subst h0; simp at hn)
  exact ⟨b, off, e1, h1.take m⟩
theorem Ow.take {k : IntKind} {B : Nat} {w : World} {a : Option Addr} {n cap : Nat} {xs : List Nat} (h : Ow k B w (.slice a n cap) xs) (m : Nat) (hm : m ≤ xs.length) : Ow k B w (.slice a m cap) (xs.take m) := by
  obtain ⟨a', cap', e, hc, h⟩ := h
  injection e with e1 e2 e3
  subst e1; subst e3
  refine ⟨a, cap, by simp; omega, by simp; omega, fun hn => ?_⟩
  obtain ⟨b, off, e1, hB, h1, h2⟩ := h (by intro h0; subst h0; simp at hn)
  exact ⟨b, off, e1, hB, h1.take m, h2.le (by simp; omega)⟩
theorem Sl.len {k : IntKind} {w : World} {a : Option Addr} {n cap : Nat} {xs : List Nat} (h : Sl k w (.slice a n cap) xs) : n = xs.length := by
  obtain ⟨a', cap', e, _⟩ := h
  injection e
theorem Ow.len {k : IntKind} {B : Nat} {w : World} {a : Option Addr} {n cap : Nat} {xs : List Nat} (h : Ow k B w (.slice a n cap) xs) : n = xs.length := h.sl.len
/-- What is owned in the kit's word is owned in ours. -/
theorem ow_of_row {w : World} {B e n : Nat} {v : Value} {xs : List Nat} {k : IntKind} (h : w.ownsRow B e 1 v n (xs.map fun x : Nat => Value.int k (x : Int))) : Ow k B w v xs := by
  have h1 := h.1
  simp at h1
  subst h1
  rcases h.2 with ⟨rfl, h0⟩ | ⟨g, cap, cur, rfl, hg, hh, hc, _, hs, ht⟩
  · obtain rfl : xs = [] := List.eq_nil_of_length_eq_zero h0
    exact Ow_nil _ _ _ _ _
  · refine ⟨_, cap, rfl, hc, fun hn => ⟨g, 0, rfl, hg, fun j hj => ?_, fun j _ => ?_⟩⟩
    · rw [Nat.zero_add, h.cellAt j (by omega)]
      simp [hj]
    · rw [Nat.zero_add]; exact h.frozenAt j
end Go.Proofs.YtcbhpjpkjmlcnaaGreat
namespace Go.Proofs.YtcbhpjpkjmlcnaaGreat
open Go.RowKit

def lenTab : ByteArray := { data := ((([0, 1, 2, 2, 3, 3, 3, 3, 4, 4, 4, 4, 4, 4, 4, 4, 5, 5, 5, 5, 5, 5, 5, 5, 5, 5, 5, 5, 5, 5, 5, 5, 6, 6, 6, 6, 6, 6, 6, 6, 6, 6, 6, 6, 6, 6, 6, 6, 6, 6, 6, 6, 6, 6, 6, 6, 6, 6, 6, 6, 6, 6, 6, 6] : List UInt8).append [7, 7, 7, 7, 7, 7, 7, 7, 7, 7, 7, 7, 7, 7, 7, 7, 7, 7, 7, 7, 7, 7, 7, 7, 7, 7, 7, 7, 7, 7, 7, 7, 7, 7, 7, 7, 7, 7, 7, 7, 7, 7, 7, 7, 7, 7, 7, 7, 7, 7, 7, 7, 7, 7, 7, 7, 7, 7, 7, 7, 7, 7, 7, 7]).append (List.append [8, 8, 8, 8, 8, 8, 8, 8, 8, 8, 8, 8, 8, 8, 8, 8, 8, 8, 8, 8, 8, 8, 8, 8, 8, 8, 8, 8, 8, 8, 8, 8, 8, 8, 8, 8, 8, 8, 8, 8, 8, 8, 8, 8, 8, 8, 8, 8, 8, 8, 8, 8, 8, 8, 8, 8, 8, 8, 8, 8, 8, 8, 8, 8] [8, 8, 8, 8, 8, 8, 8, 8, 8, 8, 8, 8, 8, 8, 8, 8, 8, 8, 8, 8, 8, 8, 8, 8, 8, 8, 8, 8, 8, 8, 8, 8, 8, 8, 8, 8, 8, 8, 8, 8, 8, 8, 8, 8, 8, 8, 8, 8, 8, 8, 8, 8, 8, 8, 8, 8, 8, 8, 8, 8, 8, 8, 8, 8])).toArray }
theorem lenTab_size : lenTab.size = 256 := by decide +kernel

theorem len_tab : ∀ i : Fin 256, 0 < i.val → 1 ≤ (lenTab[i.val]'(by rw [lenTab_size]; exact i.isLt)).toNat ∧ (lenTab[i.val]'(by rw [lenTab_size]; exact i.isLt)).toNat ≤ 8 ∧ 2 ^ ((lenTab[i.val]'(by rw [lenTab_size]; exact i.isLt)).toNat - 1) ≤ i.val ∧ i.val < 2 ^ ((lenTab[i.val]'(by rw [lenTab_size]; exact i.isLt)).toNat) := by
  decide +kernel

theorem len_key (i : Nat) (hi0 : 0 < i) (hi : i < 256) : ∃ n : Nat, (1 ≤ n ∧ n ≤ 8 ∧ 2 ^ (n - 1) ≤ i ∧ i < 2 ^ n) ∧ ∀ w, (Instr.index 9 (.string lenTab) (.int .u8 (i : Int))).run Tryz.prog w = .ok (.int .u8 (n : Int)) w := by
  refine ⟨_, len_tab ⟨i, hi⟩ hi0, fun w => ?_⟩
  rw [run_index_string w 9 lenTab .u8 (i : Int) (by kernel_rfl), dif_pos ⟨by omega, by rw [lenTab_size]; omega⟩]
  rfl

theorem len_shift {x n k : Nat} (h1 : 1 ≤ n) (h : 2 ^ (n - 1) ≤ x / 2 ^ k ∧ x / 2 ^ k < 2 ^ n) : 2 ^ (n + k - 1) ≤ x ∧ x < 2 ^ (n + k) := by
  have p : 0 < 2 ^ k := Nat.two_pow_pos k
  rw [Nat.le_div_iff_mul_le p, Nat.div_lt_iff_lt_mul p] at h
  rw [show n + k - 1 = (n - 1) + k by omega, Nat.pow_add, Nat.pow_add]
  exact h

end Go.Proofs.YtcbhpjpkjmlcnaaGreat
namespace Go.Proofs.YtcbhpjpkjmlcnaaGreat
open Go.RowKit

/-! Two digits by one, the divisor's highest bit set. -/
structure Norm (Y y1 y0 : Nat) : Prop where
  eq : Y = y1 * 4294967296 + y0
  lo : y0 < 4294967296
  ge : 2147483648 ≤ y1
  lt : y1 < 4294967296

/-- A guess q with its remainder r, not too small. -/
structure Gs (Y y1 u d q r : Nat) : Prop where
  sum : q * y1 + r = u
  rlt : r < 4294967296
  big : u * 4294967296 + d < (q + 1) * Y

theorem Gs.start {Y y1 y0 u d : Nat} (n : Norm Y y1 y0) (hd : d < 4294967296) : Gs Y y1 u d (u / y1) (u % y1) := by
  have p : 0 < y1 := by have := n.ge; omega
  have m := Nat.mod_lt u p
  have e : u / y1 * y1 + u % y1 = u := by rw [Nat.mul_comm]; exact Nat.div_add_mod u y1
  refine ⟨e, by have := n.lt; omega, ?_⟩
  rw [n.eq, Nat.mul_add, Nat.add_mul, Nat.add_mul, ← Nat.mul_assoc, Nat.one_mul, Nat.one_mul]
  generalize u / y1 * y1 = A at e ⊢
  omega
theorem mul_norm {Y y1 y0 : Nat} (n : Norm Y y1 y0) (q : Nat) : q * Y = q * y1 * 4294967296 + q * y0 := by
  rw [n.eq, Nat.mul_add, ← Nat.mul_assoc]
/-- The test tells whether the guess is too great. -/
theorem Gs.test {Y y1 y0 u d q r : Nat} (n : Norm Y y1 y0) (g : Gs Y y1 u d q r) : 4294967296 * r + d < q * y0 ↔ u * 4294967296 + d < q * Y := by
  have e := mul_norm n q
  have s := g.sum
  generalize q * y1 = A at e s
  generalize q * y0 = C at e ⊢
  omega
theorem Gs.high {Y y1 u d q r : Nat} (_g : Gs Y y1 u d q r) (hu : u < Y) (hd : d < 4294967296) (hq : 4294967296 ≤ q) : u * 4294967296 + d < q * Y := by
  have : 4294967296 * Y ≤ q * Y := Nat.mul_le_mul_right _ hq
  generalize q * Y = A at this ⊢
  omega
theorem Gs.pos {Y y1 u d q r : Nat} (_g : Gs Y y1 u d q r) (h : u * 4294967296 + d < q * Y) : 0 < q := by
  cases q with
  | zero => simp at h
  | succ q => omega
theorem Gs.down {Y y1 u d q r : Nat} (g : Gs Y y1 u d (q + 1) r) (h : u * 4294967296 + d < (q + 1) * Y) (hr : r + y1 < 4294967296) : Gs Y y1 u d q (r + y1) := by
  refine ⟨?_, hr, h⟩
  have s := g.sum
  rw [Nat.add_mul, Nat.one_mul] at s
  omega
/-- What is known when the loop has ended. -/
def Fits (Y u d q : Nat) : Prop := q < 4294967296 ∧ q * Y ≤ u * 4294967296 + d ∧ u * 4294967296 + d < (q + 1) * Y
theorem Fits.low {Y u d q : Nat} (hu : u < Y) (hd : d < 4294967296) (h : q * Y ≤ u * 4294967296 + d) : q < 4294967296 := by
  rcases Nat.lt_or_ge q 4294967296 with h1 | h1
  · exact h1
  · have : 4294967296 * Y ≤ q * Y := Nat.mul_le_mul_right _ h1
    generalize q * Y = A at this h
    omega
theorem Gs.fits {Y y1 u d q r : Nat} (g : Gs Y y1 u d q r) (hu : u < Y) (hd : d < 4294967296) (h : ¬ u * 4294967296 + d < q * Y) : Fits Y u d q := by
  have h' : q * Y ≤ u * 4294967296 + d := by generalize q * Y = A at h ⊢; omega
  exact ⟨Fits.low hu hd h', h', g.big⟩
theorem Gs.breaks {Y y1 y0 u d q r : Nat} (n : Norm Y y1 y0) (g : Gs Y y1 u d (q + 1) r) (hu : u < Y) (hd : d < 4294967296) (h : u * 4294967296 + d < (q + 1) * Y) (hr : 4294967296 ≤ r + y1) : Fits Y u d q := by
  have s := g.sum
  rw [Nat.add_mul, Nat.one_mul] at s
  have e := mul_norm n q
  have q1 : q < 4294967296 := by
    rcases Nat.lt_or_ge q 4294967296 with h1 | h1
    · exact h1
    · have := Nat.mul_le_mul_right y1 h1
      have := n.eq
      have := n.lo
      generalize q * y1 = A at *
      omega
  have q2 : q * y0 ≤ 4294967296 * 4294967296 := Nat.mul_le_mul (Nat.le_of_lt q1) (Nat.le_of_lt n.lo)
  refine ⟨q1, ?_, h⟩
  generalize q * y1 = A at *
  generalize q * y0 = C at *
  omega
/-- What is left. -/
theorem Fits.rest {Y u d q : Nat} (f : Fits Y u d q) : u * 4294967296 + d - q * Y < Y := by
  have h := f.2.2
  rw [Nat.add_mul, Nat.one_mul] at h
  have := f.2.1
  generalize q * Y = A at *
  omega
theorem two_digits {Y u v1 v0 q1 q0 : Nat} (f1 : Fits Y u v1 q1) (f0 : Fits Y (u * 4294967296 + v1 - q1 * Y) v0 q0) :
    (u * 18446744073709551616 + (v1 * 4294967296 + v0)) % Y = (u * 4294967296 + v1 - q1 * Y) * 4294967296 + v0 - q0 * Y := by
  have r0 := f0.rest
  have h1 := f1.2.1
  have h0 := f0.2.1
  have e : u * 18446744073709551616 + (v1 * 4294967296 + v0) = (q1 * 4294967296 + q0) * Y + ((u * 4294967296 + v1 - q1 * Y) * 4294967296 + v0 - q0 * Y) := by
    rw [Nat.add_mul, show q1 * 4294967296 * Y = q1 * Y * 4294967296 by rw [Nat.mul_assoc, Nat.mul_comm 4294967296, ← Nat.mul_assoc]]
    generalize q1 * Y = A at *
    generalize q0 * Y = C at *
    omega
  rw [e, Nat.mul_comm _ Y, Nat.mul_add_mod, Nat.mod_eq_of_lt r0]

theorem shifted (hi lo s : Nat) (hs : s ≤ 63) : (hi * 18446744073709551616 + lo) * 2 ^ s = (hi * 2 ^ s + lo / 2 ^ (64 - s)) * 18446744073709551616 + lo * 2 ^ s % 18446744073709551616 := by
  have e : lo * 2 ^ s / 18446744073709551616 = lo / 2 ^ (64 - s) := by
    have : (18446744073709551616 : Nat) = 2 ^ (64 - s) * 2 ^ s := by rw [← Nat.pow_add, show 64 - s + s = 64 by omega]
    rw [this, Nat.mul_div_mul_right _ _ (Nat.two_pow_pos s)]
  have m := Nat.div_add_mod (lo * 2 ^ s) 18446744073709551616
  rw [e] at m
  rw [Nat.add_mul, Nat.mul_right_comm]
  generalize hi * 2 ^ s = A at *
  generalize lo * 2 ^ s = C at *
  omega
theorem shifted_lt {hi lo y u v s : Nat} (hh : hi < y) (hl : lo < 18446744073709551616) (e : (hi * 18446744073709551616 + lo) * 2 ^ s = u * 18446744073709551616 + v) : u < y * 2 ^ s := by
  have h1 : hi * 18446744073709551616 + lo < y * 18446744073709551616 := by omega
  have h2 := Nat.mul_lt_mul_of_pos_right h1 (Nat.two_pow_pos s)
  rw [e, Nat.mul_right_comm] at h2
  generalize y * 2 ^ s = A at *
  omega
theorem unshifted (X y s : Nat) : X * 2 ^ s % (y * 2 ^ s) / 2 ^ s = X % y := by
  rw [Nat.mul_mod_mul_right, Nat.mul_div_cancel _ (Nat.two_pow_pos s)]
theorem wrap_cast (n : Nat) (h : n < 18446744073709551616) : IntKind.u64.wrap (n : Int) = (n : Int) := by
  rw [IntKind.wrap_u64]; omega

theorem or_shift (A L s : Nat) (hA : A % 2 ^ s = 0) (hA1 : A < 18446744073709551616) (hL : L < 2 ^ s) (hL1 : L < 18446744073709551616) : bits BinOp.or IntKind.u64 (A : Int) (L : Int) = ((A + L : Nat) : Int) := by
  rw [bits_join .u64 64 (by decide) (fun n h0 h1 => by rw [IntKind.wrap_u64]; omega) s _ _ (by omega) (by exact_mod_cast hA) (by omega) (by omega) (by exact_mod_cast hL) (by omega)]
  push_cast; rfl

end Go.Proofs.YtcbhpjpkjmlcnaaGreat
namespace Go.Proofs.YtcbhpjpkjmlcnaaGreat
open Go.RowKit

/-- -1, 0 or 1. -/
def cmpI (a b : Int) : Int := if a < b then -1 else if b < a then 1 else 0

/-- The sign of an Int's value. -/
def sgn (neg : Bool) (n : Nat) : Int := if n = 0 then 0 else if neg then -1 else 1

end Go.Proofs.YtcbhpjpkjmlcnaaGreat
namespace Go.Proofs.YtcbhpjpkjmlcnaaGreat
open Go.RowKit Go.Shelf
attribute [local go_sem] Oper.semAt_some

/-- How a round of such a loop may end. -/
def backPost {S : Type} (B : Nat) (pos : S → Nat) (I : S → World → Prop) (Ix : Code → World → Prop) (s : S) (W : World) : Exit → Act → World → Prop
  | .normal, _, W' => KeepsFrom B W W' ∧ ∃ s', pos s' = pos s - 1 ∧ I s' W'
  | .ret, _, W' => KeepsFrom B W W' ∧ Ix .ret W'
  | .exit id, _, W' => KeepsFrom B W W' ∧ Ix (.exit id) W'
  | .goto t, _, W' => KeepsFrom B W W' ∧ Ix (.goto t) W'
  | .panic _, _, _ => False
  | .outgrown, _, _ => False

end Go.Proofs.YtcbhpjpkjmlcnaaGreat
namespace Go.Proofs.YtcbhpjpkjmlcnaaGreat
open Go.RowKit Go.Shelf
attribute [local go_sem] Oper.semAt_some

theorem OwnFrom.box {β : Type} (B0 B : Nat) (t : TypeId) (f : β → Value) : OwnFrom B0 (fun s W => Boxed W B t (f s)) := Own.from (boxed_own B t f) B0

theorem Sl.trimmed {w : World} {a : Option Addr} {n cap : Nat} {xs : List Nat} (h : Sl .u32 w (.slice a n cap) xs) : Sl .u32 w (.slice a (tl xs xs.length) cap) (trimL xs) := h.take _ (tl_le _ _)
theorem Ow.trimmed {B : Nat} {w : World} {a : Option Addr} {n cap : Nat} {xs : List Nat} (h : Ow .u32 B w (.slice a n cap) xs) : Ow .u32 B w (.slice a (tl xs xs.length) cap) (trimL xs) := h.take _ (tl_le _ _)
end Go.Proofs.YtcbhpjpkjmlcnaaGreat
namespace Go.Proofs.YtcbhpjpkjmlcnaaGreat
open Go.RowKit

/-- Two boxes of two cells each, laid at w's end, hold what they held; what w had stands. -/
abbrev S2 (w : World) (a0 a1 b0 b1 : Value) (W : World) : Prop :=
  (W.cell? ⟨w.heap.size, 0, none⟩ = some a0 ∧ W.cell? ⟨w.heap.size, 1, none⟩ = some a1 ∧ W.cell? ⟨w.heap.size + 1, 0, none⟩ = some b0 ∧ W.cell? ⟨w.heap.size + 1, 1, none⟩ = some b1) ∧ w.heap.size + 2 ≤ W.heap.size ∧ Below w.heap.size w W
theorem S2.init (w : World) (a0 a1 b0 b1 : Value) (s t : TypeId) : S2 w a0 a1 b0 b1 ((w.alloc (.cells #[a0, a1] s)).alloc (.cells #[b0, b1] t)).drew := by
  refine ⟨⟨?_, ?_, ?_, ?_⟩, ?_, ?_⟩
  · show ((w.alloc (.cells #[a0, a1] s)).alloc (.cells #[b0, b1] t)).cell? _ = _
    rw [World.cell?_alloc_past _ _ _ (by simp), World.cell?_alloc_at _ _ _ _ rfl]; rfl
  · show ((w.alloc (.cells #[a0, a1] s)).alloc (.cells #[b0, b1] t)).cell? _ = _
    rw [World.cell?_alloc_past _ _ _ (by simp), World.cell?_alloc_at _ _ _ _ rfl]; rfl
  · show ((w.alloc (.cells #[a0, a1] s)).alloc (.cells #[b0, b1] t)).cell? _ = _
    rw [World.cell?_alloc_at _ _ _ _ (by simp)]; rfl
  · show ((w.alloc (.cells #[a0, a1] s)).alloc (.cells #[b0, b1] t)).cell? _ = _
    rw [World.cell?_alloc_at _ _ _ _ (by simp)]; rfl
  · show _ ≤ ((w.alloc (.cells #[a0, a1] s)).alloc (.cells #[b0, b1] t)).heap.size
    simp
  · exact (((Below.refl w.heap.size w).alloc (Nat.le_refl _) _).alloc (by simp) _).drew
theorem S2.keep {w W W' : World} {a0 a1 b0 b1 : Value} (h : S2 w a0 a1 b0 b1 W) (hb : Below W.heap.size W W') : S2 w a0 a1 b0 b1 W' := by
  obtain ⟨⟨h1, h2, h3, h4⟩, hs, hB⟩ := h
  have hs' := hb.size
  exact ⟨⟨(hb.cell (p := ⟨w.heap.size, 0, none⟩) (by simp; omega)).trans h1, (hb.cell (p := ⟨w.heap.size, 1, none⟩) (by simp; omega)).trans h2,
    (hb.cell (p := ⟨w.heap.size + 1, 0, none⟩) (by simp; omega)).trans h3, (hb.cell (p := ⟨w.heap.size + 1, 1, none⟩) (by simp; omega)).trans h4⟩, by omega, hB.trans (hb.mono (by omega))⟩
theorem S2.below {w W : World} {a0 a1 b0 b1 : Value} (h : S2 w a0 a1 b0 b1 W) : Below w.heap.size w W := h.2.2
theorem below_drew {W : World} : Below W.heap.size W W.drew := (Below.refl _ _).drew

/-- The value of an Int. -/
def zv (neg : Bool) (n : Nat) : Int := if neg then -(n : Int) else (n : Int)

theorem tl_zero {xs : List Nat} : tl xs xs.length = 0 ↔ val xs = 0 := by
  rw [← trimL_length, ← val_trimL xs]
  exact (Tr_zero (Tr_trimL xs)).symm
theorem sgn_tl (neg : Bool) (xs : List Nat) : sgn neg (tl xs xs.length) = sgn neg (val xs) := by
  simp only [sgn, tl_zero]
theorem cmp_parts (na nb : Bool) (x y : Nat) (h : sgn na x ≠ sgn nb y) : cmpI (sgn na x) (sgn nb y) = cmpI (zv na x) (zv nb y) := by
  unfold sgn zv cmpI at *
  cases na <;> cases nb <;> simp at h ⊢ <;> (repeat' split at h) <;> (repeat' split) <;> omega
theorem cmp_one (na nb : Bool) (x y : Nat) (h : sgn na x = sgn nb y) : sgn na x * cmpN x y = cmpI (zv na x) (zv nb y) := by
  unfold sgn zv cmpI cmpN at *
  cases na <;> cases nb <;> simp at h ⊢ <;> (repeat' split at h) <;> (repeat' split) <;> omega
theorem cmpN_bd (x y : Nat) : -1 ≤ cmpN x y ∧ cmpN x y ≤ 1 := by
  unfold cmpN
  repeat' split
  all_goals omega
theorem sgn_bd (n : Bool) (x : Nat) : sgn n x = -1 ∨ sgn n x = 0 ∨ sgn n x = 1 := by
  unfold sgn
  repeat' split
  all_goals omega

end Go.Proofs.YtcbhpjpkjmlcnaaGreat
namespace Go.Proofs.YtcbhpjpkjmlcnaaGreat
open Go.RowKit Go.WideShapes

theorem Tryz.infoWord : (Tryz.prog.info? 30).map (fun i => (i.zero, i.size, i.bytes)) = some (some (.int .u32 0), 1, 4) := by kernel_rfl
theorem words_one (xs : List Nat) (k : IntKind) : ∀ u ∈ (xs.map fun x : Nat => Value.int k (x : Int)), u.oneCell' = true := by
  intro u hu
  simp only [List.mem_map] at hu
  obtain ⟨x, _, rfl⟩ := hu
  rfl
theorem seg_cells {k : IntKind} {w : World} {b off : Nat} {xs : List Nat} (h : Seg k w b off xs) : ∀ j u, (xs.map fun x : Nat => Value.int k (x : Int))[j]? = some u → w.cell? (Addr.add ⟨b, off, none⟩ j) = some u := by
  intro j u hu
  rw [List.getElem?_map] at hu
  cases hx : xs[j]? with
  | none => rw [hx] at hu; simp at hu
  | some x =>
    rw [hx] at hu
    simp at hu
    have hj : j < xs.length := (List.getElem?_eq_some_iff.1 hx).1
    rw [add_plain, h j hj, hx, ← hu]
    rfl
theorem Ow.form {k : IntKind} {B : Nat} {w : World} {v : Value} {xs : List Nat} (h : Ow k B w v xs) : ∃ a cap, v = .slice a xs.length cap := by
  obtain ⟨a, cap, e, _⟩ := h
  exact ⟨a, cap, e⟩
theorem ownsRow_new (w : World) (B e : Nat) (hB : B ≤ w.heap.size) : (w.alloc (.cells #[] e)).ownsRow B e 1 (.slice (some ⟨w.heap.size, 0, none⟩) 0 0) 0 [] :=
  ⟨rfl, Or.inr ⟨w.heap.size, 0, #[], rfl, hB, World.alloc_heap_new w _, Nat.le_refl _, Nat.zero_le _, rfl, rfl⟩⟩

/-- A store into a cell that holds no number leaves rows of numbers alone. -/
theorem Seg.setOther {k : IntKind} {w : World} {b off : Nat} {xs : List Nat} (h : Seg k w b off xs) {p : Addr} {u : Value} (hp : w.cell? p = some u) (hu : ∀ q n, u ≠ .int q n) (v : Value) : Seg k (w.setCell p v) b off xs := by
  intro j hj
  rw [World.cell?_setCell_other _ _ _ _ (fun e => ?_), h j hj]
  have := h j hj
  rw [← e, hp] at this
  exact hu _ _ (Option.some.inj this)
theorem Sl.setOther {k : IntKind} {w : World} {sv : Value} {xs : List Nat} (h : Sl k w sv xs) {p : Addr} {u : Value} (hp : w.cell? p = some u) (hu : ∀ q n, u ≠ .int q n) (v : Value) : Sl k (w.setCell p v) sv xs := by
  obtain ⟨a, cap, e, hc, h⟩ := h
  refine ⟨a, cap, e, hc, fun hn => ?_⟩
  obtain ⟨b, off, e1, h1⟩ := h hn
  exact ⟨b, off, e1, h1.setOther hp hu v⟩
theorem Ow.setOther {k : IntKind} {B : Nat} {w : World} {sv : Value} {xs : List Nat} (h : Ow k B w sv xs) {p : Addr} {u : Value} (hp : w.cell? p = some u) (hu : ∀ q n, u ≠ .int q n) (v : Value) : Ow k B (w.setCell p v) sv xs := by
  obtain ⟨a, cap, e, hc, h⟩ := h
  refine ⟨a, cap, e, hc, fun hn => ?_⟩
  obtain ⟨b, off, e1, hB, h1, h2⟩ := h hn
  exact ⟨b, off, e1, hB, h1.setOther hp hu v, h2.set p v⟩
/-- A box of an Int at block N, written over. -/
def put2 (w : World) (N : Nat) (neg : Bool) (s : Value) : World := (w.setCell ⟨N, 0, none⟩ (.bool neg)).setCell ⟨N, 1, none⟩ s
structure Box2 (w : World) (N : Nat) (neg : Bool) (a : Option Addr) (n cap : Nat) : Prop where
  c0 : w.cell? ⟨N, 0, none⟩ = some (.bool neg)
  c1 : w.cell? ⟨N, 1, none⟩ = some (.slice a n cap)
  f0 : w.frozen? ⟨N, 0, none⟩ = false
  f1 : w.frozen? ⟨N, 1, none⟩ = false
theorem Box2.new (w : World) (neg : Bool) (a : Option Addr) (n cap : Nat) (t : TypeId) : Box2 (w.alloc (.cells #[.bool neg, .slice a n cap] t)) w.heap.size neg a n cap :=
  ⟨by rw [World.cell?_alloc_at _ _ _ _ rfl]; rfl, by rw [World.cell?_alloc_at _ _ _ _ rfl]; rfl, World.frozen?_alloc_at _ _ _ _ rfl, World.frozen?_alloc_at _ _ _ _ rfl⟩
theorem Box2.lt {w : World} {N : Nat} {neg : Bool} {a : Option Addr} {n cap : Nat} (h : Box2 w N neg a n cap) : N < w.heap.size := lt_of_cell h.c0
theorem Box2.below {w w' : World} {N : Nat} {neg : Bool} {a : Option Addr} {n cap : Nat} (h : Box2 w N neg a n cap) (hb : Below w.heap.size w w') : Box2 w' N neg a n cap :=
  ⟨(hb.cell (p := ⟨N, 0, none⟩) h.lt).trans h.c0, (hb.cell (p := ⟨N, 1, none⟩) h.lt).trans h.c1, (hb.frozen (p := ⟨N, 0, none⟩) h.lt).trans h.f0, (hb.frozen (p := ⟨N, 1, none⟩) h.lt).trans h.f1⟩
theorem Box2.putSlice {w : World} {N : Nat} {neg : Bool} {a : Option Addr} {n cap : Nat} (h : Box2 w N neg a n cap) (x : Bool) : (w.setCell ⟨N, 0, none⟩ (.bool x)).cell? ⟨N, 1, none⟩ = some (.slice a n cap) := by
  rw [World.cell?_setCell_other _ _ _ _ (by intro e; injection e with _ e; omega)]; exact h.c1
theorem Box2.put {w : World} {N : Nat} {neg : Bool} {a : Option Addr} {n cap : Nat} (h : Box2 w N neg a n cap) (x : Bool) (a' : Option Addr) (n' cap' : Nat) : Box2 (put2 w N x (.slice a' n' cap')) N x a' n' cap' := by
  refine ⟨?_, World.cell?_setCell_same' _ _ _ (by rw [h.putSlice]; rfl), ?_, ?_⟩
  · unfold put2
    rw [World.cell?_setCell_other _ _ _ _ (by intro e; injection e with _ e; omega)]
    exact World.cell?_setCell_same' _ _ _ (by rw [h.c0]; rfl)
  · unfold put2; rw [World.frozen?_setCell, World.frozen?_setCell]; exact h.f0
  · unfold put2; rw [World.frozen?_setCell, World.frozen?_setCell]; exact h.f1
theorem Sl.put {k : IntKind} {w : World} {sv : Value} {xs : List Nat} (h : Sl k w sv xs) {N : Nat} {neg : Bool} {a : Option Addr} {n cap : Nat} (hb : Box2 w N neg a n cap) (x : Bool) (s : Value) : Sl k (put2 w N x s) sv xs :=
  (h.setOther hb.c0 (fun _ _ e => by cases e) _).setOther (hb.putSlice x) (fun _ _ e => by cases e) _
theorem Ow.put {k : IntKind} {B : Nat} {w : World} {sv : Value} {xs : List Nat} (h : Ow k B w sv xs) {N : Nat} {neg : Bool} {a : Option Addr} {n cap : Nat} (hb : Box2 w N neg a n cap) (x : Bool) (s : Value) : Ow k B (put2 w N x s) sv xs :=
  (h.setOther hb.c0 (fun _ _ e => by cases e) _).setOther (hb.putSlice x) (fun _ _ e => by cases e) _
theorem below_put2 {B N : Nat} {a w : World} (h : Below B a w) (hN : B ≤ N) (x : Bool) (s : Value) : Below B a (put2 w N x s) :=
  (h.setCell (p := ⟨N, 0, none⟩) hN _).setCell (p := ⟨N, 1, none⟩) hN _

/-- An Int value in its form, of the number z, its words (from block B on) in the world w. -/
def IntIs (B : Nat) (w : World) (v : Value) (z : Int) : Prop :=
  ∃ neg a n cap xs, v = .agg #[.bool neg, .slice a n cap] ∧ Ow .u32 B w (.slice a n cap) xs ∧ okw xs ∧ Tr xs ∧ (xs = [] → neg = false ∧ a = none ∧ cap = 0) ∧ z = zv neg (val xs)

/-- A result that is refused where it would be long. -/
def Res (B : Nat) (w : World) (v : Value) (k : Int) (z : Int) : Prop :=
  (z.natAbs < pw 256 ∧ k = 0 ∧ IntIs B w v z) ∨ (pw 256 ≤ z.natAbs ∧ k = 3 ∧ v = .agg #[.bool false, .slice none 0 0])
theorem IntIs.below {B : Nat} {w w' : World} {v : Value} {z : Int} (h : IntIs B w v z) (hb : Below w.heap.size w w') : IntIs B w' v z := by
  obtain ⟨neg, a, n, cap, xs, e, ho, h⟩ := h
  exact ⟨neg, a, n, cap, xs, e, ho.below hb, h⟩
theorem IntIs.mono {B B' : Nat} {w : World} {v : Value} {z : Int} (h : IntIs B w v z) (hB : B' ≤ B) : IntIs B' w v z := by
  obtain ⟨neg, a, n, cap, xs, e, ho, h⟩ := h
  exact ⟨neg, a, n, cap, xs, e, ho.mono hB, h⟩
theorem IntIs.put {B : Nat} {w : World} {v : Value} {z : Int} (h : IntIs B w v z) {N : Nat} {neg : Bool} {a : Option Addr} {n cap : Nat} (hb : Box2 w N neg a n cap) (x : Bool) (s : Value) : IntIs B (put2 w N x s) v z := by
  obtain ⟨neg, a, n, cap, xs, e, ho, h⟩ := h
  exact ⟨neg, a, n, cap, xs, e, ho.put hb x s, h⟩
theorem zv_abs (neg : Bool) (n : Nat) : (zv neg n).natAbs = n := by
  unfold zv
  split <;> omega

end Go.Proofs.YtcbhpjpkjmlcnaaGreat
namespace Go.Proofs.YtcbhpjpkjmlcnaaGreat
open Go.RowKit Go.Shelf
attribute [local go_sem] Oper.semAt_some

theorem below_alloc' (w : World) (o : Obj) : Below w.heap.size w (w.alloc o) := (Below.refl _ _).alloc (Nat.le_refl _) _
theorem boxed_below {W W' : World} {N : Nat} {t : TypeId} {v : Value} (h : Boxed W N t v) (hb : Below W.heap.size W W') : Boxed W' N t v := (hb.block N h.lt).trans h
theorem keeps_below {B : Nat} {W W' : World} (hb : Below W.heap.size W W') : KeepsFrom B W W' := ⟨hb.size, fun k _ _ hk _ => (hb.block k (Array.getElem?_eq_some_iff.1 hk).1).trans hk⟩

theorem mod_step (V x m : Nat) : (x + 4294967296 * V) % m = (V % m * 4294967296 + x) % m := by
  rw [Nat.add_mod (V % m * 4294967296), Nat.mul_mod, Nat.mod_mod, ← Nat.mul_mod, ← Nat.add_mod, Nat.add_comm, Nat.mul_comm]
theorem neg_mod_zero {v m : Nat} (h : v % m = 0) : (-(v : Int)) % (m : Int) = 0 := by
  obtain ⟨q, rfl⟩ := Nat.dvd_of_mod_eq_zero h
  rw [show (-((m * q : Nat) : Int)) = (m : Int) * (-(q : Int)) by push_cast; rw [Int.mul_neg]]
  exact Int.mul_emod_right _ _
theorem neg_mod_pos {v m r : Nat} (h : v % m = r) (h0 : r ≠ 0) (hr : r < m) : (-(v : Int)) % (m : Int) = (m : Int) - r := by
  have e := Nat.div_add_mod v m
  rw [h] at e
  generalize v / m = q at e
  have e2 : (-(v : Int)) = ((m : Int) - r) + (m : Int) * (-((q : Int) + 1)) := by
    rw [← e, Int.mul_neg, Int.mul_add]
    push_cast
    omega
  rw [e2, Int.add_mul_emod_self_left, Int.emod_eq_of_lt (by omega) (by omega)]

end Go.Proofs.YtcbhpjpkjmlcnaaGreat
namespace Go.Proofs.YtcbhpjpkjmlcnaaGreat
open Go.RowKit

/-- From w to w' only the n cells at ⟨g, off⟩ may have turned. -/
structure OnlyRow (w w' : World) (g off n : Nat) : Prop where
  os : w'.os = w.os
  tape : w'.tape = w.tape
  output : w'.output = w.output
  size : w'.heap.size = w.heap.size
  block : ∀ k, k ≠ g → w'.heap[k]? = w.heap[k]?
  cell : ∀ o, (o < off ∨ off + n ≤ o) → w'.cell? ⟨g, o, none⟩ = w.cell? ⟨g, o, none⟩
  frozen : ∀ p, w'.frozen? p = w.frozen? p
theorem OnlyRow.refl (w : World) (g off n : Nat) : OnlyRow w w g off n := ⟨rfl, rfl, rfl, rfl, fun _ _ => rfl, fun _ _ => rfl, fun _ => rfl⟩
theorem OnlyRow.set {w w' : World} {g off n : Nat} (h : OnlyRow w w' g off n) (i : Nat) (hi : i < n) (v : Value) : OnlyRow w (w'.setCell ⟨g, off + i, none⟩ v) g off n := by
  refine ⟨h.os, h.tape, h.output, by rw [← h.size]; simp [World.setCell], fun k hk => ?_, fun o ho => ?_, fun p => ?_⟩
  · rw [Below.heap_setCell _ _ _ _ hk]; exact h.block k hk
  · rw [World.cell?_setCell_other _ _ _ _ (by intro e; injection e with _ e; omega)]; exact h.cell o ho
  · rw [World.frozen?_setCell]; exact h.frozen p
theorem OnlyRow.below {w w' : World} {g off n B : Nat} (h : OnlyRow w w' g off n) (hB : B ≤ g) : Below B w w' :=
  ⟨h.os, h.tape, h.output, by rw [h.size]; exact Nat.le_refl _, fun k hk => h.block k (by omega)⟩
theorem OnlyRow.seg {k : IntKind} {w w' : World} {g off n b o : Nat} {xs : List Nat} (h : OnlyRow w w' g off n) (hs : Seg k w b o xs) (hb : b ≠ g) : Seg k w' b o xs :=
  fun j hj => (World.cell?_of_block (a := ⟨b, o + j, none⟩) (h.block b hb)).trans (hs j hj)

theorem val_take_succ' (xs : List Nat) (k : Nat) : val (xs.take (k + 1)) = val (xs.take k) + pw k * (xs[k]?.getD 0) := by
  rcases Nat.lt_or_ge k xs.length with h | h
  · exact val_take_succ xs k h
  · rw [List.take_of_length_le (by omega), List.take_of_length_le h, List.getElem?_eq_none h]; simp
theorem val_split (xs : List Nat) (k : Nat) (h : k ≤ xs.length) : val xs = val (xs.take k) + pw k * val (xs.drop k) := by
  have := val_append (xs.take k) (xs.drop k)
  rw [List.take_append_drop, List.length_take, Nat.min_eq_left h] at this
  exact this
theorem okw_drop {xs : List Nat} (h : okw xs) (k : Nat) : okw (xs.drop k) := fun x hx => h x (List.mem_of_mem_drop hx)
theorem set_mid (ds xs : List Nat) (k d : Nat) (hd : ds.length = k) (hk : k < xs.length) : (ds ++ xs.drop k).set k d = (ds ++ [d]) ++ xs.drop (k + 1) := by
  subst hd
  rw [List.set_append_right _ _ (Nat.le_refl _), Nat.sub_self, List.append_assoc, List.drop_eq_getElem_cons hk]
  rfl
/-- One word of a row that is gone through is written. -/
theorem seg_mid {k : IntKind} {w : World} {g off i : Nat} {ds xs : List Nat} (h : Seg k w g off (ds ++ xs.drop i)) (hd : ds.length = i) (hi : i < xs.length) (d : Nat) : Seg k (w.setCell ⟨g, off + i, none⟩ (.int k (d : Int))) g off ((ds ++ [d]) ++ xs.drop (i + 1)) := by
  rw [← set_mid ds xs i d hd hi]
  exact h.set i (by simp; omega) d
theorem add_val {xs ys ds : List Nat} {k cv d c x y : Nat} (h : val ds + pw k * cv = val (xs.take k) + val (ys.take k)) (hd : ds.length = k) (ex : xs[k]?.getD 0 = x) (ey : ys[k]?.getD 0 = y) (hs : x + y + cv = d + 4294967296 * c) :
    val (ds ++ [d]) + pw (k + 1) * c = val (xs.take (k + 1)) + val (ys.take (k + 1)) := by
  rw [val_append, hd, val_take_succ', val_take_succ', ex, ey]
  simp only [val, pw]
  have e : pw k * (x + y + cv) = pw k * (d + 4294967296 * c) := by rw [hs]
  rw [Nat.mul_add, Nat.mul_add, Nat.mul_add] at e
  have e2 : 4294967296 * pw k * c = pw k * (4294967296 * c) := by rw [Nat.mul_comm 4294967296 (pw k), Nat.mul_assoc]
  rw [e2]
  simp only [Nat.mul_zero, Nat.add_zero]
  omega

/-- Block g is a row of these numbers, the call's own. -/
def Row (k : IntKind) (t : TypeId) (w : World) (g : Nat) (xs : List Nat) : Prop := w.heap[g]? = some (.cells (xs.map fun x : Nat => Value.int k (x : Int)).toArray t (0, 0))
theorem Row.seg {k : IntKind} {t : TypeId} {w : World} {g : Nat} {xs : List Nat} (h : Row k t w g xs) : Seg k w g 0 xs := by
  intro j hj
  unfold World.cell?
  rw [show w.heap[g]? = _ from h]
  simp [hj]
theorem Row.free {k : IntKind} {t : TypeId} {w : World} {g : Nat} {xs : List Nat} (h : Row k t w g xs) (off n : Nat) : Free w g off n := by
  intro j _
  unfold World.frozen?
  rw [show w.heap[g]? = _ from h]
  simp
theorem Row.lt {k : IntKind} {t : TypeId} {w : World} {g : Nat} {xs : List Nat} (h : Row k t w g xs) : g < w.heap.size := (Array.getElem?_eq_some_iff.1 h).1
/-- What 'make' has laid. -/
theorem row_made {w : World} {B t n g : Nat} {k : IntKind} (h : w.ownsRow B t 1 (.slice (some ⟨g, 0, none⟩) n n) n (madeCells (Value.int k 0).cells (n * 1)).toList) : Row k t w g (List.replicate n 0) := by
  rcases h.2 with ⟨e, _⟩ | ⟨g', cap, cur, e, _, hh, _, _, hs, ht⟩
  · cases e
  · injection e with e1 e2 e3
    injection e1 with e1
    injection e1 with e1
    subst e1; subst e3
    unfold Row
    rw [hh]
    simp only [Nat.mul_one] at hs ht
    rw [List.take_of_length_le (by simp [hs])] at ht
    have e : cur = (List.replicate n (Value.int k 0)).toArray := by
      rw [← Array.toArray_toList (xs := cur), ht]
      rw [show (Value.int k 0).cells = #[Value.int k 0] from rfl, toList_madeCells_one]
    rw [e]
    simp
theorem map_splice (L : List Nat) (off : Nat) (cs : List Nat) (f : Nat → Value) : splice (L.map f) off (cs.map f) = (splice L off cs).map f := by simp [splice]
/-- A number in words: its row is the call's own, trimmed. -/
def NumIs (B : Nat) (w : World) (v : Value) (n : Nat) : Prop := ∃ xs, Ow .u32 B w v xs ∧ okw xs ∧ Tr xs ∧ val xs = n
theorem NumIs.below {B : Nat} {w w' : World} {v : Value} {n : Nat} (h : NumIs B w v n) (hb : Below w.heap.size w w') : NumIs B w' v n := by
  obtain ⟨xs, h1, h2⟩ := h
  exact ⟨xs, h1.below hb, h2⟩
theorem NumIs.mono {B B' : Nat} {w : World} {v : Value} {n : Nat} (h : NumIs B w v n) (hB : B' ≤ B) : NumIs B' w v n := by
  obtain ⟨xs, h1, h2⟩ := h
  exact ⟨xs, h1.mono hB, h2⟩

theorem Tryz.sizeWord : (Tryz.prog.info? 30).map (·.size) = some 1 := by kernel_rfl
/-- The cells of the words of a slice. -/
def From (w : World) (a : Option Addr) (X : List Value) : Prop := 0 < X.length → ∃ ad, a = some ad ∧ ∀ j u, X[j]? = some u → w.cell? (ad.add j) = some u
theorem From.below {w w' : World} {a : Option Addr} {X : List Value} (h : From w a X) (hb : Below w.heap.size w w') : From w' a X := fun h0 => by
  obtain ⟨ad, e, h⟩ := h h0
  refine ⟨ad, e, fun j u hu => ?_⟩
  have := h j u hu
  rw [hb.cell (World.block_lt_of_cell? _ _ this)]
  exact this
theorem from_of_sl {k : IntKind} {w : World} {a : Option Addr} {n cap : Nat} {xs : List Nat} (h : Sl k w (.slice a n cap) xs) : From w a (xs.map fun x : Nat => Value.int k (x : Int)) := fun h0 => by
  rcases h.cases with ⟨rfl, _⟩ | ⟨_, b, off, cap', e, _, hs, _⟩
  · simp at h0
  · injection e with e1
    exact ⟨_, e1, seg_cells hs⟩
theorem splice_front (xs : List Nat) : splice (List.replicate (xs.length + 1) 0) 0 xs = xs ++ [0] := by
  simp [splice, List.replicate_succ']
/-- The row behind 'make' and 'copy'. -/
theorem row_front {w : World} {g : Nat} {xs : List Nat} (h : w.heap[g]? = some (.cells (splice ((List.replicate (xs.length + 1) 0).map fun x : Nat => Value.int .u32 (x : Int)) 0 (xs.map fun x : Nat => Value.int .u32 (x : Int))).toArray 30 (0, 0))) : Row .u32 30 w g (xs ++ [0]) := by
  rw [map_splice, splice_front] at h
  exact h

theorem seg_snoc {k : IntKind} {w : World} {g : Nat} {zs : List Nat} {u : Value} (h : Seg k w g 0 zs) (hc : w.cell? ⟨g, zs.length, none⟩ = some u) (c : Nat) : Seg k (w.setCell ⟨g, zs.length, none⟩ (.int k (c : Int))) g 0 (zs ++ [c]) := by
  intro j hj
  rw [List.length_append] at hj
  by_cases hjz : j = zs.length
  · subst hjz
    rw [Nat.zero_add, World.cell?_setCell_same' _ _ _ (by rw [hc]; rfl)]
    simp
  · have hj' : j < zs.length := by simp at hj; omega
    rw [World.cell?_setCell_other _ _ _ _ (by intro e; injection e with _ e; omega), h j hj', List.getElem?_append_left hj']

end Go.Proofs.YtcbhpjpkjmlcnaaGreat
namespace Go.Proofs.YtcbhpjpkjmlcnaaGreat
open Go.RowKit Go.Shelf

theorem pw_two (k : Nat) : pw k = 2 ^ (32 * k) := by
  induction k with
  | zero => rfl
  | succ k ih => rw [show 32 * (k + 1) = 32 + 32 * k by omega, Nat.pow_add, ← ih, show k + 1 = 1 + k by omega, pw_add]; rfl
theorem val_drop_get (xs : List Nat) (p : Nat) (h : p < xs.length) : val (xs.drop p) = xs[p]?.getD 0 + 4294967296 * val (xs.drop (p + 1)) := by
  rw [List.drop_eq_getElem_cons h, List.getElem?_eq_getElem h]; rfl
/-- A number's bit is its word's. -/
theorem val_bit {xs : List Nat} (ox : okw xs) (p s : Nat) (h : p < xs.length) (hs : s < 32) : val xs / 2 ^ (32 * p + s) % 2 = xs[p]?.getD 0 / 2 ^ s % 2 := by
  have h1 := val_split xs p (by omega)
  have h2 := val_lt (okw_take ox p)
  rw [List.length_take, Nat.min_eq_left (by omega)] at h2
  have e : val xs / 2 ^ (32 * p + s) = val (xs.drop p) / 2 ^ s := by
    rw [Nat.pow_add, ← Nat.div_div_eq_div_mul, ← pw_two, h1, Nat.add_mul_div_left _ _ (pw_pos p), Nat.div_eq_of_lt h2, Nat.zero_add]
  rw [e, val_drop_get xs p h]
  have e2 : (4294967296 : Nat) = 2 ^ s * 2 ^ (32 - s) := by rw [← Nat.pow_add, show s + (32 - s) = 32 by omega]
  rw [e2, Nat.mul_assoc, Nat.add_mul_div_left _ _ (Nat.two_pow_pos s)]
  have e3 : (2 : Nat) ^ (32 - s) = 2 * 2 ^ (31 - s) := by rw [show 32 - s = 1 + (31 - s) by omega, Nat.pow_add]
  rw [e3, Nat.mul_assoc, Nat.add_mul_mod_self_left]
theorem half_step (V i : Nat) : V / 2 ^ i = 2 * (V / 2 ^ (i + 1)) + V / 2 ^ i % 2 := by
  rw [Nat.pow_succ, ← Nat.div_div_eq_div_mul]; omega
theorem rest_step {V i m r b : Nat} (hr : r < m) (e : V / 2 ^ (i + 1) % m = r) (hb : V / 2 ^ i % 2 = b) : V / 2 ^ i % m = if m ≤ 2 * r + b then 2 * r + b - m else 2 * r + b := by
  have h := half_step V i
  rw [hb] at h
  have hb2 : b < 2 := by rw [← hb]; exact Nat.mod_lt _ (by decide)
  have e2 : (2 * (V / 2 ^ (i + 1)) + b) % m = (2 * r + b) % m := by
    rw [← e, Nat.add_mod (2 * (V / 2 ^ (i + 1) % m)), Nat.mul_mod 2 (V / 2 ^ (i + 1) % m), Nat.mod_mod, ← Nat.mul_mod, ← Nat.add_mod]
  rw [h, e2]
  split
  · rw [Nat.mod_eq_sub_mod (by omega), Nat.mod_eq_of_lt (by omega)]
  · exact Nat.mod_eq_of_lt (by omega)

theorem and_one_u32 (x : Int) (h0 : 0 ≤ x) (h1 : x < 4294967296) : bits BinOp.and IntKind.u32 x 1 = x % 2 := by
  have h := bits_mask .u32 32 (by decide) (fun n h0 h1 => by rw [IntKind.wrap_u32]; omega) 1 (by decide) x h0 (by omega)
  simpa using h

end Go.Proofs.YtcbhpjpkjmlcnaaGreat
namespace Go.Proofs.YtcbhpjpkjmlcnaaGreat
open Go.RowKit

/-- An Int in its box, of the number z. -/
structure Hd (w : World) (N : Nat) (neg : Bool) (a : Option Addr) (l c : Nat) (xs : List Nat) (z : Int) : Prop where
  box : Box2 w N neg a l c
  sl : Sl .u32 w (.slice a l c) xs
  ok : okw xs
  le : xs.length ≤ 256
  num : zv neg (val xs) = z
/-- Words and sign in their one form. -/
structure Fm (neg : Bool) (xs : List Nat) : Prop where
  tr : Tr xs
  nn : xs = [] → neg = false
/-- An Int that was answered. -/
structure Out (w : World) (neg : Bool) (a : Option Addr) (l c : Nat) (xs : List Nat) (z : Int) : Prop where
  sl : Sl .u32 w (.slice a l c) xs
  ok : okw xs
  le : xs.length ≤ 256
  num : zv neg (val xs) = z
  fm : Fm neg xs
theorem below_alloc (w : World) (o : Obj) : Below w.heap.size w (w.alloc o) := (Below.refl _ _).alloc (Nat.le_refl _) _
theorem Hd.below {w w' : World} {N : Nat} {neg : Bool} {a : Option Addr} {l c : Nat} {xs : List Nat} {z : Int} (h : Hd w N neg a l c xs z) (hb : Below w.heap.size w w') : Hd w' N neg a l c xs z :=
  ⟨h.box.below hb, h.sl.below hb, h.ok, h.le, h.num⟩
theorem Out.below {w w' : World} {neg : Bool} {a : Option Addr} {l c : Nat} {xs : List Nat} {z : Int} (h : Out w neg a l c xs z) (hb : Below w.heap.size w w') : Out w' neg a l c xs z :=
  ⟨h.sl.below hb, h.ok, h.le, h.num, h.fm⟩
theorem Hd.alloc {w : World} {N : Nat} {neg : Bool} {a : Option Addr} {l c : Nat} {xs : List Nat} {z : Int} (h : Hd w N neg a l c xs z) (o : Obj) : Hd (w.alloc o) N neg a l c xs z := h.below (below_alloc w o)
theorem Hd.new {w : World} {neg : Bool} {a : Option Addr} {l c : Nat} {xs : List Nat} {z : Int} (h : Out w neg a l c xs z) (t : TypeId) : Hd (w.alloc (.cells #[.bool neg, .slice a l c] t)) w.heap.size neg a l c xs z :=
  ⟨Box2.new w neg a l c t, h.sl.below (below_alloc w _), h.ok, h.le, h.num⟩
theorem Hd.abs {w : World} {N : Nat} {neg : Bool} {a : Option Addr} {l c : Nat} {xs : List Nat} {z : Int} (h : Hd w N neg a l c xs z) : val xs = z.natAbs := by rw [← h.num, zv_abs]
theorem Out.abs {w : World} {neg : Bool} {a : Option Addr} {l c : Nat} {xs : List Nat} {z : Int} (h : Out w neg a l c xs z) : val xs = z.natAbs := by rw [← h.num, zv_abs]
theorem IntIs.out {B : Nat} {w : World} {neg : Bool} {a : Option Addr} {n c : Nat} {z : Int} (h : IntIs B w (.agg #[.bool neg, .slice a n c]) z) (hz : z.natAbs < pw 256) : ∃ xs, Out w neg a n c xs z := by
  obtain ⟨_, _, _, _, xs, e, ho, ok, t, hn, hz'⟩ := h
  cases e
  exact ⟨xs, ho.sl, ok, Tr_len_le t 256 (by rw [← zv_abs neg (val xs), ← hz']; exact hz), hz'.symm, t, fun h => (hn h).1⟩
theorem zv_eq {na nb : Bool} {x y : Nat} (h : zv na x = zv nb y) : x = y ∧ (x ≠ 0 → na = nb) := by
  have h1 := zv_abs na x
  have h2 := zv_abs nb y
  rw [h] at h1
  refine ⟨by omega, fun h0 => ?_⟩
  obtain rfl : x = y := by omega
  cases na <;> cases nb <;> simp [zv] at h ⊢ <;> omega
theorem boxes2 (w : World) (n0 n1 : Bool) (a0 a1 : Option Addr) (l0 c0 l1 c1 : Nat) (t : TypeId) :
    let W := (w.alloc (.cells #[.bool n0, .slice a0 l0 c0] t)).alloc (.cells #[.bool n1, .slice a1 l1 c1] t)
    Box2 W w.heap.size n0 a0 l0 c0 ∧ Box2 W (w.heap.size + 1) n1 a1 l1 c1 ∧ Below w.heap.size w W := by
  intro W
  refine ⟨(Box2.new w n0 a0 l0 c0 t).below ((Below.refl _ _).alloc (Nat.le_refl _) _), ?_, ((Below.refl w.heap.size w).alloc (Nat.le_refl _) _).alloc (by simp) _⟩
  have := Box2.new (w.alloc (.cells #[.bool n0, .slice a0 l0 c0] t)) n1 a1 l1 c1 t
  simpa using this
theorem IntIs.form {B : Nat} {w : World} {v : Value} {z : Int} (h : IntIs B w v z) : ∃ neg a n cap, v = .agg #[.bool neg, .slice a n cap] := by
  obtain ⟨neg, a, n, cap, xs, e, _⟩ := h
  exact ⟨neg, a, n, cap, e⟩
theorem zv_not (a : Bool) (x : Nat) : zv (!a) x = - zv a x := by
  unfold zv; cases a <;> simp

theorem Sl.place {k : IntKind} {w : World} {a : Option Addr} {n c : Nat} {zs : List Nat} (h : Sl k w (.slice a n c) zs) : ∃ b off, (zs ≠ [] → a = some ⟨b, off, none⟩ ∧ b < w.heap.size) ∧ Seg k w b off zs := by
  rcases h.cases with ⟨rfl, _⟩ | ⟨_, b, off, cap', e, _, hs, hl⟩
  · exact ⟨0, 0, fun h => absurd rfl h, fun j hj => by simp at hj⟩
  · injection e with e1
    exact ⟨b, off, fun _ => ⟨e1, hl⟩, hs⟩
end Go.Proofs.YtcbhpjpkjmlcnaaGreat
namespace Go.Proofs.YtcbhpjpkjmlcnaaGreat
open Go.RowKit

/-- Words in a row of their own, from block B on. -/
def Words (B : Nat) (w : World) (v : Value) (ts : List Nat) : Prop := w.ownsRow B 30 1 v ts.length (ts.map fun x : Nat => Value.int .u32 (x : Int))
theorem Words.ow {B : Nat} {w : World} {v : Value} {ts : List Nat} (h : Words B w v ts) : Ow .u32 B w v ts := ow_of_row h
theorem Words.alloc {B : Nat} {w : World} {v : Value} {ts : List Nat} (h : Words B w v ts) (o : Obj) : Words B (w.alloc o) v ts := World.ownsRow.alloc h o
theorem Words.nil (B : Nat) (w : World) : Words B w (.slice none 0 0) [] := ⟨rfl, Or.inl ⟨rfl, rfl⟩⟩

theorem rtrim_fin {xs : List Nat} {w w1 : World} {v v' : Value} {m : Nat} {ys : List Nat} (hv : v = .slice none 0 0) (hm : m = ys.length) (hys : ys = trimL xs) (h1 : w1.ownsRow w.heap.size 30 1 v' (0 + m) ([] ++ ys.map fun x : Nat => Value.int .u32 (x : Int))) (h2 : w.grownBy w1 v.ownBlock) (h3 : v' = .slice none 0 0 ↔ v = .slice none 0 0 ∧ m = 0) :
    Hid (Words w.heap.size w1 v' (trimL xs) ∧ (trimL xs = [] → v' = .slice none 0 0) ∧ Below w.heap.size w w1) := by
  subst hys; subst hm; subst hv
  show _ ∧ _ ∧ _
  refine ⟨?_, fun h => h3.2 ⟨rfl, ?_⟩, (Below.refl w.heap.size w).grown h2 (Nat.le_refl _) (fun k e => by cases e)⟩
  · unfold Words; simpa using h1
  · rw [h]; rfl

end Go.Proofs.YtcbhpjpkjmlcnaaGreat
namespace Go.Proofs.YtcbhpjpkjmlcnaaGreat
open Go.RowKit

theorem long_iff {xs : List Nat} (ox : okw xs) : decide (256 < tl xs xs.length) = decide (pw 256 ≤ val xs) := by
  have h := len_le_iff (Tr_trimL xs) (okw_trimL ox) 256
  rw [trimL_length, val_trimL] at h
  simp only [decide_eq_decide]
  omega

theorem IntIs.open {B : Nat} {w : World} {neg : Bool} {a : Option Addr} {n c : Nat} {z : Int} (h : IntIs B w (.agg #[.bool neg, .slice a n c]) z) : ∃ xs, Ow .u32 B w (.slice a n c) xs ∧ okw xs ∧ Fm neg xs ∧ zv neg (val xs) = z := by
  obtain ⟨_, _, _, _, xs, e, ho, ok, t, hn, hz'⟩ := h
  cases e
  exact ⟨xs, ho, ok, ⟨t, fun h => (hn h).1⟩, hz'.symm⟩

end Go.Proofs.YtcbhpjpkjmlcnaaGreat
namespace Go.Proofs.YtcbhpjpkjmlcnaaGreat
open Go.RowKit

/-- An Int as an int, if it is one. -/
def smallOk (z : Int) : Bool := decide (-9223372036854775808 ≤ z ∧ z ≤ 9223372036854775807)
def smallZ (z : Int) : Int := if -9223372036854775808 ≤ z ∧ z ≤ 9223372036854775807 then z else 0
theorem or_low (L A s : Nat) (hA : A % 2 ^ s = 0) (hA1 : A < 18446744073709551616) (hL : L < 2 ^ s) (hL1 : L < 18446744073709551616) : bits BinOp.or IntKind.u64 (L : Int) (A : Int) = ((A + L : Nat) : Int) := by
  have hc : bits BinOp.or IntKind.u64 (L : Int) (A : Int) = bits BinOp.or IntKind.u64 (A : Int) (L : Int) := by simp only [bits, BitVec.or_comm]
  rw [hc]
  exact or_shift A L s hA hA1 hL hL1
theorem val_bound {xs : List Nat} (o : okw xs) (t : Tr xs) : xs.length ≤ 2 ↔ val xs < 18446744073709551616 := by
  have h := len_le_iff t o 2
  rw [show pw 2 = 18446744073709551616 from rfl] at h
  exact h
theorem take_val {ys : List Nat} (o : okw ys) (k : Nat) (hk : k < ys.length) (h2 : ys.length ≤ 2) : val (ys.take (k + 1)) = ys[k]?.getD 0 * 2 ^ (32 * k) + val (ys.take k) ∧ val (ys.take k) < 2 ^ (32 * k) ∧ ys[k]?.getD 0 * 2 ^ (32 * k) < 18446744073709551616 ∧ ys[k]?.getD 0 * 2 ^ (32 * k) % 2 ^ (32 * k) = 0 := by
  have h1 := val_take_succ ys k hk
  have h3 := val_lt (okw_take o k)
  rw [List.length_take, Nat.min_eq_left (by omega), pw_two] at h3
  rw [pw_two, Nat.mul_comm] at h1
  have h4 := okw_get o k
  refine ⟨by omega, h3, ?_, Nat.mul_mod_left _ _⟩
  rcases (show k = 0 ∨ k = 1 by omega) with rfl | rfl
  · simp; omega
  · simp; omega

end Go.Proofs.YtcbhpjpkjmlcnaaGreat
namespace Go.Proofs.YtcbhpjpkjmlcnaaGreat
open Go.RowKit

end Go.Proofs.YtcbhpjpkjmlcnaaGreat
namespace Go.Proofs.YtcbhpjpkjmlcnaaGreat
open Go.RowKit Go.Shelf

/-- A word as an int, and what stands for -1. -/
def hashed (x o : Int) : Int := if wrap64 x = -1 then o else wrap64 x

theorem plain_any (w : World) : Calls Tryz.prog 104 #[] w fun e w' => e = .returned (.int .i64 (-2)) ∧ w' = w := by
  go_enter Tryz.func104, Tryz.ntmps104
  go_wp2
  go_ret
  exact ⟨rfl, rfl⟩
theorem sealed_plain (x : Int) (w : World) :
    Calls Tryz.prog 103 #[.int .u64 x, .func (.func 104) #[] #[]] w fun e w' => e = .returned (.int .i64 (hashed x (-2))) ∧ w' = w := by
  unfold hashed
  by_cases h : wrap64 x = -1
  · rw [if_pos h]
    have h2 : (wrap64 x == -1) = true := by simpa using h
    go_enter Tryz.func103, Tryz.ntmps103
    go_wp2_with (go_at_call 104; refine (plain_any _).mono ?_; rintro e w' ⟨rfl, rfl⟩)
    go_ret
    exact ⟨rfl, rfl⟩
  · rw [if_neg h]
    have h2 : (wrap64 x == -1) = false := by simpa using h
    go_enter Tryz.func103, Tryz.ntmps103
    go_wp2_with (go_at_call 104; refine (plain_any _).mono ?_; rintro e w' ⟨rfl, rfl⟩)
    go_ret
    exact ⟨rfl, rfl⟩

theorem instead_any (x o : Int) (w : World) :
    Calls Tryz.prog 96 #[.int .u64 x, .int .i64 o] w fun e w' => e = .returned (.int .i64 (hashed x o)) ∧ w' = w := by
  unfold hashed
  by_cases h : wrap64 x = -1
  · rw [if_pos h]
    have h2 : (wrap64 x == -1) = true := by simpa using h
    go_enter Tryz.func96, Tryz.ntmps96
    go_wp2
    go_ret
    exact ⟨rfl, rfl⟩
  · rw [if_neg h]
    have h2 : (wrap64 x == -1) = false := by simpa using h
    go_enter Tryz.func96, Tryz.ntmps96
    go_wp2
    go_ret
    exact ⟨rfl, rfl⟩
end Go.Proofs.YtcbhpjpkjmlcnaaGreat
namespace Go.Proofs.YtcbhpjpkjmlcnaaGreat
open Go.RowKit Go.Shelf

def nums (s : ByteArray) : List Nat := s.data.toList.map UInt8.toNat
theorem nums_length (s : ByteArray) : (nums s).length = s.size := by unfold nums; rw [List.length_map, Array.length_toList]; rfl
theorem nums_lt (s : ByteArray) (i : Nat) : (nums s)[i]?.getD 0 < 256 := by
  unfold nums
  rw [List.getElem?_map]
  cases s.data.toList[i]? with
  | none => simp
  | some u => simp; exact u.toNat_lt
theorem index_str (s : ByteArray) (i : Nat) (h : i < s.size) (w : World) : (Instr.index 9 (.string s) (.int .i64 (i : Int))).run Tryz.prog w = .ok (.int .u8 (((nums s)[i]?.getD 0 : Nat) : Int)) w := by
  rw [run_index_string w 9 s .i64 (i : Int) (by kernel_rfl), dif_pos ⟨by omega, by omega⟩]
  have e : (nums s)[i]?.getD 0 = (s[i]'h).toNat := by
    unfold nums
    rw [List.getElem?_map, List.getElem?_eq_getElem (by rw [Array.length_toList]; exact h)]
    rfl
  rw [e]
  rfl

/-- The word of a text's first bytes. -/
def tsum (s : ByteArray) : Nat → Int
  | 0 => 14695981039346656037
  | k + 1 => IntKind.u64.wrap (bits BinOp.xor IntKind.u64 (tsum s k) (((nums s)[k]?.getD 0 : Nat) : Int) * 1099511628211)

set_option maxRecDepth 100000 in
theorem text_any (s : ByteArray) (w : World) (hs : s.size ≤ 3000) :
    Calls Tryz.prog 83 #[.string s] w fun e w' => e = .returned (.int .i64 (hashed (tsum s s.size) (-2))) ∧ w' = w := by
  have hx : ∀ i, i < s.size → ∀ w, (Instr.index 9 (.string s) (.int .i64 (i : Int))).run Tryz.prog w = .ok (.int .u8 (((nums s)[i]?.getD 0 : Nat) : Int)) w := fun i hi => index_str s i hi
  go_enter Tryz.func83, Tryz.ntmps83
  go_wp2_with fail
  go_loop [3, 7] (fun h i => ∃ k : Nat, k ≤ s.size ∧ i = .int .i64 (k : Int) ∧ h = .int .u64 (tsum s k)) (fun _ i => s.size - (intOf i).toNat)
  case atStart => exact ⟨0, Nat.zero_le _, rfl, rfl⟩
  case round =>
    obtain ⟨k, hk, rfl, rfl⟩ := hrel
    by_cases hlt : k < s.size
    · have t2 : (k : Int) < s.size := by omega
      have hi := hx k hlt
      have hd := nums_lt s k
      obtain ⟨T, hT⟩ : ∃ T, tsum s k = T := ⟨_, rfl⟩
      have HT : Hid (tsum s k = T) := hT
      rw [hT]
      clear hT
      obtain ⟨d, hd'⟩ : ∃ d, (nums s)[k]?.getD 0 = d := ⟨_, rfl⟩
      have HD : Hid ((nums s)[k]?.getD 0 = d) := hd'
      rw [hd'] at hi hd
      clear hd' hx
      go_wp2_with fail
      refine ⟨⟨k + 1, by omega, by go_num, by rw [tsum, HT.out, HD.out]⟩, by simp [intOf]; omega⟩
    · obtain rfl : k = s.size := by omega
      have t2 : ¬ (s.size : Int) < s.size := by omega
      clear hx
      obtain ⟨T, hT⟩ : ∃ T, tsum s s.size = T := ⟨_, rfl⟩
      have HT : Hid (tsum s s.size = T) := hT
      clear hT
      rw [HT.out]
      go_wp2_with (go_at_call 103; refine (sealed_plain _ _).mono ?_; rintro e w' ⟨rfl, rfl⟩)
      go_ret
      exact ⟨by rw [HT.out]; rfl, rfl⟩

set_option maxRecDepth 100000 in
theorem rtext_any (s : ByteArray) (w : World) (hs : s.size ≤ 3000) :
    Calls Tryz.prog 70 #[.string s] w fun e w' => e = .returned (.int .i64 (hashed (tsum s s.size) (-2))) ∧ w' = w := by
  have hx : ∀ i, i < s.size → ∀ w, (Instr.index 9 (.string s) (.int .i64 (i : Int))).run Tryz.prog w = .ok (.int .u8 (((nums s)[i]?.getD 0 : Nat) : Int)) w := fun i hi => index_str s i hi
  go_enter Tryz.func70, Tryz.ntmps70
  go_wp2_with fail
  go_loop [3, 4] (fun h i => ∃ k : Nat, k ≤ s.size ∧ i = .int .i64 (k : Int) ∧ h = .int .u64 (tsum s k)) (fun _ i => s.size - (intOf i).toNat)
  case atStart => exact ⟨0, Nat.zero_le _, rfl, rfl⟩
  case round =>
    obtain ⟨k, hk, rfl, rfl⟩ := hrel
    by_cases hlt : k < s.size
    · have t2 : (k : Int) < s.size := by omega
      have hi := hx k hlt
      have hd := nums_lt s k
      obtain ⟨T, hT⟩ : ∃ T, tsum s k = T := ⟨_, rfl⟩
      have HT : Hid (tsum s k = T) := hT
      rw [hT]
      clear hT
      obtain ⟨d, hd'⟩ : ∃ d, (nums s)[k]?.getD 0 = d := ⟨_, rfl⟩
      have HD : Hid ((nums s)[k]?.getD 0 = d) := hd'
      rw [hd'] at hi hd
      clear hd' hx
      go_wp2_with fail
      refine ⟨⟨k + 1, by omega, by go_num, by rw [tsum, HT.out, HD.out]⟩, by simp [intOf]; omega⟩
    · obtain rfl : k = s.size := by omega
      have t2 : ¬ (s.size : Int) < s.size := by omega
      clear hx
      obtain ⟨T, hT⟩ : ∃ T, tsum s s.size = T := ⟨_, rfl⟩
      have HT : Hid (tsum s s.size = T) := hT
      clear hT
      rw [HT.out]
      go_wp2_with (go_at_call 96; refine (instead_any _ _ _).mono ?_; rintro e w' ⟨rfl, rfl⟩)
      go_ret
      exact ⟨by rw [HT.out]; rfl, rfl⟩
end Go.Proofs.YtcbhpjpkjmlcnaaGreat
