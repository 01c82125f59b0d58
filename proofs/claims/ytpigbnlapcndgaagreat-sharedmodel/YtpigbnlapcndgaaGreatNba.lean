/-
  Plain mathematics of rows of words of 32 bits, the lowest first: their value, their trimmed form, their order. No program, no world.
  Rows of words in memory: what a slice holds, what is the call's own, and how that stands behind later steps. No program.
  What math/bits' Len64, LeadingZeros64 do.
  What math/bits' Div64 does: its rest.
  What the leaf functions of package whole do: trim, isLong, cmp.Compare, sign.
  A loop over slices.Backward of a row of words: what the caller owes, in terms of a state of its own: the loop's body may write the very row that it goes through.
-/
import Derived.WalkKit
import Derived.Test.YtpigbnlapcndgaaGreatRows
import Derived.Deep.CutRange
import Derived.Deep.CutBlock
import Derived.Laws.MathBits
import Derived.RangeFuncNested
import Derived.RangeFuncBound
import Derived.RangeFuncCalls
import Derived.RangeFuncLeaves
import Derived.Shelf.Abstract
import Derived.OwnWalkIn
import Derived.TacticsInMore
import Derived.LoopNIn
import Derived.LoopIn
namespace Go.Proofs.YtpigbnlapcndgaaGreat

/-- The powers of 2^32. -/
def pw : Nat → Nat
  | 0 => 1
  | k + 1 => 4294967296 * pw k
theorem pw_pos (k : Nat) : 0 < pw k := by
  induction k with
  | zero => simp [pw]
  | succ k ih => simp only [pw]; omega
theorem pw_add (a b : Nat) : pw (a + b) = pw a * pw b := by
  induction a with
  | zero => simp [pw]
  | succ a ih => rw [Nat.succ_add, pw, pw, ih, Nat.mul_assoc]
theorem pw_mono {a b : Nat} (h : a ≤ b) : pw a ≤ pw b := by
  obtain ⟨c, rfl⟩ := Nat.exists_eq_add_of_le h
  rw [pw_add]
  exact Nat.le_mul_of_pos_right _ (pw_pos c)
theorem pw_lt {a b : Nat} (h : pw a < pw b) : a < b := by
  refine Nat.lt_of_not_le fun hb => ?_
  have := pw_mono hb
  omega

def val : List Nat → Nat
  | [] => 0
  | x :: xs => x + 4294967296 * val xs
def okw (xs : List Nat) : Prop := ∀ x ∈ xs, x < 4294967296
theorem okw_nil : okw [] := fun _ h => by cases h
theorem okw_cons {x : Nat} {xs : List Nat} : okw (x :: xs) ↔ x < 4294967296 ∧ okw xs := by simp [okw]
theorem okw_take {xs : List Nat} (h : okw xs) (k : Nat) : okw (xs.take k) := fun x hx => h x (List.mem_of_mem_take hx)
theorem okw_append {xs ys : List Nat} : okw (xs ++ ys) ↔ okw xs ∧ okw ys := by
  simp only [okw, List.mem_append]
  exact ⟨fun h => ⟨fun x hx => h x (Or.inl hx), fun x hx => h x (Or.inr hx)⟩, fun h x hx => hx.elim (h.1 x) (h.2 x)⟩
theorem okw_get {xs : List Nat} (h : okw xs) (k : Nat) : xs[k]?.getD 0 < 4294967296 := by
  rcases Nat.lt_or_ge k xs.length with hk | hk
  · rw [List.getElem?_eq_getElem hk]; exact h _ (List.getElem_mem hk)
  · rw [List.getElem?_eq_none hk]; simp
theorem val_append (xs ys : List Nat) : val (xs ++ ys) = val xs + pw xs.length * val ys := by
  induction xs with
  | nil => simp [val, pw]
  | cons x xs ih => simp only [List.cons_append, val, List.length_cons, pw]; rw [ih, Nat.mul_add, Nat.mul_assoc]; omega
theorem val_lt {xs : List Nat} (h : okw xs) : val xs < pw xs.length := by
  induction xs with
  | nil => simp [val, pw]
  | cons x xs ih =>
    have h1 := ih (okw_cons.1 h).2
    have h2 := (okw_cons.1 h).1
    simp only [val, List.length_cons, pw]
    omega
theorem take_succ_get (xs : List Nat) (k : Nat) (h : k < xs.length) : xs.take (k + 1) = xs.take k ++ [xs[k]?.getD 0] := by
  rw [List.take_succ_eq_append_getElem h, List.getElem?_eq_getElem h]; rfl
theorem val_take_succ (xs : List Nat) (k : Nat) (h : k < xs.length) : val (xs.take (k + 1)) = val (xs.take k) + pw k * (xs[k]?.getD 0) := by
  rw [take_succ_get xs k h, val_append, List.length_take, Nat.min_eq_left (by omega)]
  simp [val]
theorem val_replicate (n : Nat) : val (List.replicate n 0) = 0 := by
  induction n with
  | zero => rfl
  | succ n ih => simp [List.replicate_succ, val, ih]

/-- Without noughts at the end. -/
def Tr (xs : List Nat) : Prop := xs.length = 0 ∨ xs[xs.length - 1]?.getD 0 ≠ 0
def tl (zs : List Nat) : Nat → Nat
  | 0 => 0
  | k + 1 => if zs[k]?.getD 0 = 0 then tl zs k else k + 1
def trimL (xs : List Nat) : List Nat := xs.take (tl xs xs.length)
theorem tl_le (zs : List Nat) (k : Nat) : tl zs k ≤ k := by
  induction k with
  | zero => simp [tl]
  | succ k ih => simp only [tl]; split <;> omega
theorem tl_pos (zs : List Nat) (k : Nat) : tl zs k = 0 ∨ zs[tl zs k - 1]?.getD 0 ≠ 0 := by
  induction k with
  | zero => simp [tl]
  | succ k ih =>
    simp only [tl]
    split
    · exact ih
    · right; simpa using ‹¬ _›
theorem val_tl (zs : List Nat) (k : Nat) (h : k ≤ zs.length) : val (zs.take (tl zs k)) = val (zs.take k) := by
  induction k with
  | zero => simp [tl]
  | succ k ih =>
    simp only [tl]
    split
    · rename_i h0
      rw [ih (by omega), val_take_succ zs k (by omega), h0]; simp
    · rfl
theorem trimL_length (xs : List Nat) : (trimL xs).length = tl xs xs.length := by
  have := tl_le xs xs.length
  simp [trimL]; omega
theorem trimL_le (xs : List Nat) : (trimL xs).length ≤ xs.length := by rw [trimL_length]; exact tl_le _ _
theorem val_trimL (xs : List Nat) : val (trimL xs) = val xs := by
  have := val_tl xs xs.length (Nat.le_refl _)
  simpa [trimL] using this
theorem Tr_trimL (xs : List Nat) : Tr (trimL xs) := by
  have hl := tl_le xs xs.length
  unfold Tr
  rw [trimL_length]
  rcases tl_pos xs xs.length with h | h
  · exact Or.inl h
  · by_cases h0 : tl xs xs.length = 0
    · exact Or.inl h0
    · right
      rw [trimL, List.getElem?_take_of_lt (by omega)]
      exact h
theorem okw_trimL {xs : List Nat} (h : okw xs) : okw (trimL xs) := okw_take h _
theorem tl_Tr {xs : List Nat} (h : Tr xs) : tl xs xs.length = xs.length := by
  rcases h with h | h
  · rw [h]; rfl
  · cases hk : xs.length with
    | zero => rfl
    | succ k => rw [hk] at h; simp only [tl]; rw [if_neg (by simpa using h)]
theorem trimL_Tr {xs : List Nat} (h : Tr xs) : trimL xs = xs := by rw [trimL, tl_Tr h]; simp
theorem Tr_ge {xs : List Nat} (h : Tr xs) (h0 : xs.length ≠ 0) : pw (xs.length - 1) ≤ val xs := by
  obtain ⟨k, hk⟩ : ∃ k, xs.length = k + 1 := ⟨xs.length - 1, by omega⟩
  have e := val_take_succ xs k (by omega)
  rw [← hk, List.take_length] at e
  rcases h with h | h
  · omega
  · rw [hk] at h
    simp only [Nat.add_sub_cancel] at h
    rw [hk, e]
    simp only [Nat.add_sub_cancel]
    have := Nat.le_mul_of_pos_right (pw k) (Nat.pos_of_ne_zero h)
    omega
theorem Tr_len_lt {xs ys : List Nat} (h : Tr ys) (hx : okw xs) (hl : xs.length < ys.length) : val xs < val ys := by
  have h1 := val_lt hx
  have h2 := Tr_ge h (by omega)
  have h3 := pw_mono (show xs.length ≤ ys.length - 1 by omega)
  omega
theorem Tr_zero {xs : List Nat} (h : Tr xs) : val xs = 0 ↔ xs.length = 0 := by
  constructor
  · intro h0
    refine Decidable.byContradiction fun hn => ?_
    have := Tr_ge h hn
    have := pw_pos (xs.length - 1)
    omega
  · intro h0
    obtain rfl : xs = [] := List.eq_nil_of_length_eq_zero h0
    rfl
/-- A row of at most k words has a value below the k-th power; a trimmed one at or above it has more words. -/
theorem Tr_len_le {xs : List Nat} (h : Tr xs) (k : Nat) (hv : val xs < pw k) : xs.length ≤ k := by
  refine Nat.le_of_not_lt fun hl => ?_
  have h1 := Tr_ge h (by omega)
  have h2 := pw_mono (show k ≤ xs.length - 1 by omega)
  omega
theorem len_le_iff {xs : List Nat} (h : Tr xs) (hx : okw xs) (k : Nat) : xs.length ≤ k ↔ val xs < pw k :=
  ⟨fun hl => Nat.lt_of_lt_of_le (val_lt hx) (pw_mono hl), Tr_len_le h k⟩

/-- The order of two rows of one length is told by the highest word in which they part. -/
theorem val_cmp {xs ys : List Nat} (hx : okw xs) (hl : xs.length = ys.length) (i : Nat) (hi : i < xs.length)
    (hsame : ∀ j, i < j → j < xs.length → xs[j]?.getD 0 = ys[j]?.getD 0) (hlt : xs[i]?.getD 0 < ys[i]?.getD 0) : val xs < val ys := by
  have base : val (xs.take (i + 1)) < val (ys.take (i + 1)) := by
    rw [val_take_succ xs i hi, val_take_succ ys i (by omega)]
    have h1 := val_lt (okw_take hx i)
    rw [List.length_take, Nat.min_eq_left (by omega)] at h1
    have h2 : pw i * (xs[i]?.getD 0 + 1) ≤ pw i * (ys[i]?.getD 0) := Nat.mul_le_mul_left _ hlt
    rw [Nat.mul_add] at h2
    omega
  have up : ∀ m, i + 1 + m ≤ xs.length → val (xs.take (i + 1 + m)) < val (ys.take (i + 1 + m)) := by
    intro m
    induction m with
    | zero => intro _; exact base
    | succ m ih =>
      intro hm
      have := ih (by omega)
      rw [← Nat.add_assoc, val_take_succ xs _ (by omega), val_take_succ ys _ (by omega), hsame (i + 1 + m) (by omega) (by omega)]
      omega
  have h := up (xs.length - (i + 1)) (by omega)
  rw [show i + 1 + (xs.length - (i + 1)) = xs.length by omega] at h
  rw [List.take_length] at h
  rwa [hl, List.take_length] at h
theorem ext_get {xs ys : List Nat} (hl : xs.length = ys.length) (h : ∀ j, j < xs.length → xs[j]?.getD 0 = ys[j]?.getD 0) : xs = ys := by
  apply List.ext_getElem hl
  intro i h1 h2
  have := h i h1
  rw [List.getElem?_eq_getElem h1, List.getElem?_eq_getElem h2] at this
  simpa using this
theorem val_inj_len {xs ys : List Nat} (hx : okw xs) (hy : okw ys) (hl : xs.length = ys.length) (hv : val xs = val ys) : xs = ys := by
  induction xs generalizing ys with
  | nil => exact (List.eq_nil_of_length_eq_zero (by simpa using hl.symm)).symm
  | cons x xs ih =>
    cases ys with
    | nil => simp at hl
    | cons y ys =>
      simp only [val] at hv
      have h1 := (okw_cons.1 hx).1
      have h2 := (okw_cons.1 hy).1
      have e1 : x = y := by omega
      have e2 : val xs = val ys := by omega
      rw [e1, ih (okw_cons.1 hx).2 (okw_cons.1 hy).2 (by simpa using hl) e2]
theorem Tr_inj {xs ys : List Nat} (hx : okw xs) (hy : okw ys) (tx : Tr xs) (ty : Tr ys) (hv : val xs = val ys) : xs = ys := by
  refine val_inj_len hx hy ?_ hv
  rcases Nat.lt_trichotomy xs.length ys.length with h | h | h
  · have := Tr_len_lt ty hx h; omega
  · exact h
  · have := Tr_len_lt tx hy h; omega
/-- -1, 0 or 1, as a number is below another, is it, or is above. -/
def cmpN (a b : Nat) : Int := if a < b then -1 else if b < a then 1 else 0
end Go.Proofs.YtpigbnlapcndgaaGreat
namespace Go.Proofs.YtpigbnlapcndgaaGreat
open Go.RowKit

/-- The cells at ⟨b, off⟩ hold these numbers. -/
def Seg (k : IntKind) (w : World) (b off : Nat) (xs : List Nat) : Prop :=
  ∀ j, j < xs.length → w.cell? ⟨b, off + j, none⟩ = some (.int k ((xs[j]?.getD 0 : Nat) : Int))
/-- None of the n cells at ⟨b, off⟩ is frozen. -/
def Free (w : World) (b off n : Nat) : Prop := ∀ j, j < n → w.frozen? ⟨b, off + j, none⟩ = false
/-- The slice v holds these numbers. -/
def Sl (k : IntKind) (w : World) (v : Value) (xs : List Nat) : Prop :=
  ∃ a cap, v = .slice a xs.length cap ∧ xs.length ≤ cap ∧ (xs ≠ [] → ∃ b off, a = some ⟨b, off, none⟩ ∧ Seg k w b off xs)
/-- .. in blocks from number B on, and may be written. -/
def Ow (k : IntKind) (B : Nat) (w : World) (v : Value) (xs : List Nat) : Prop :=
  ∃ a cap, v = .slice a xs.length cap ∧ xs.length ≤ cap ∧ (xs ≠ [] → ∃ b off, a = some ⟨b, off, none⟩ ∧ B ≤ b ∧ Seg k w b off xs ∧ Free w b off xs.length)
theorem Ow.sl {k : IntKind} {B : Nat} {w : World} {v : Value} {xs : List Nat} (h : Ow k B w v xs) : Sl k w v xs := by
  obtain ⟨a, cap, e, hc, h⟩ := h
  exact ⟨a, cap, e, hc, fun hn => by obtain ⟨b, off, e1, _, h2, _⟩ := h hn; exact ⟨b, off, e1, h2⟩⟩
theorem Ow.mono {k : IntKind} {B B' : Nat} {w : World} {v : Value} {xs : List Nat} (h : Ow k B w v xs) (hB : B' ≤ B) : Ow k B' w v xs := by
  obtain ⟨a, cap, e, hc, h⟩ := h
  exact ⟨a, cap, e, hc, fun hn => by obtain ⟨b, off, e1, h1, h2⟩ := h hn; exact ⟨b, off, e1, by omega, h2⟩⟩
theorem lt_of_cell {w : World} {b o : Nat} {v : Value} (h : w.cell? ⟨b, o, none⟩ = some v) : b < w.heap.size := by
  unfold World.cell? at h
  split at h
  · rename_i c e f hb
    exact (Array.getElem?_eq_some_iff.1 hb).1
  · simp at h
theorem Seg.lt {k : IntKind} {w : World} {b off : Nat} {xs : List Nat} (h : Seg k w b off xs) (hn : xs ≠ []) : b < w.heap.size := by
  have : 0 < xs.length := List.length_pos_iff.2 hn
  exact lt_of_cell (h 0 this)
theorem Seg.below {k : IntKind} {B : Nat} {w w' : World} {b off : Nat} {xs : List Nat} (h : Seg k w b off xs) (hb : Below B w w') (hlt : b < B) : Seg k w' b off xs :=
  fun j hj => (hb.cell (p := ⟨b, off + j, none⟩) hlt).trans (h j hj)
theorem Free.below {B : Nat} {w w' : World} {b off n : Nat} (h : Free w b off n) (hb : Below B w w') (hlt : b < B) : Free w' b off n :=
  fun j hj => (hb.frozen (p := ⟨b, off + j, none⟩) hlt).trans (h j hj)
theorem Sl.below {k : IntKind} {w w' : World} {v : Value} {xs : List Nat} (h : Sl k w v xs) (hb : Below w.heap.size w w') : Sl k w' v xs := by
  obtain ⟨a, cap, e, hc, h⟩ := h
  refine ⟨a, cap, e, hc, fun hn => ?_⟩
  obtain ⟨b, off, e1, h1⟩ := h hn
  exact ⟨b, off, e1, h1.below hb (h1.lt hn)⟩
theorem Ow.below {k : IntKind} {B : Nat} {w w' : World} {v : Value} {xs : List Nat} (h : Ow k B w v xs) (hb : Below w.heap.size w w') : Ow k B w' v xs := by
  obtain ⟨a, cap, e, hc, h⟩ := h
  refine ⟨a, cap, e, hc, fun hn => ?_⟩
  obtain ⟨b, off, e1, hB, h1, h2⟩ := h hn
  exact ⟨b, off, e1, hB, h1.below hb (h1.lt hn), h2.below hb (h1.lt hn)⟩
theorem Sl_nil (k : IntKind) (w : World) (a : Option Addr) (cap : Nat) : Sl k w (.slice a 0 cap) [] := ⟨a, cap, rfl, by simp, fun h => absurd rfl h⟩
theorem Ow_nil (k : IntKind) (B : Nat) (w : World) (a : Option Addr) (cap : Nat) : Ow k B w (.slice a 0 cap) [] := ⟨a, cap, rfl, by simp, fun h => absurd rfl h⟩
theorem Seg.take {k : IntKind} {w : World} {b off : Nat} {xs : List Nat} (h : Seg k w b off xs) (m : Nat) : Seg k w b off (xs.take m) := by
  intro j hj
  have hj' : j < m ∧ j < xs.length := by simpa [List.length_take, Nat.lt_min] using hj
  rw [h j hj'.2, List.getElem?_take_of_lt hj'.1]
theorem Free.le {w : World} {b off n m : Nat} (h : Free w b off n) (hm : m ≤ n) : Free w b off m := fun j hj => h j (by omega)
/-- A store into the row. -/
theorem Seg.set {k : IntKind} {w : World} {b off : Nat} {xs : List Nat} (h : Seg k w b off xs) (i : Nat) (hi : i < xs.length) (v : Nat) :
    Seg k (w.setCell ⟨b, off + i, none⟩ (.int k (v : Int))) b off (xs.set i v) := by
  intro j hj
  rw [List.length_set] at hj
  by_cases hij : j = i
  · subst hij
    rw [World.cell?_setCell_same' _ _ _ (by rw [h j hj]; rfl)]
    simp [hj]
  · rw [World.cell?_setCell_other _ _ _ _ (by intro e; injection e with e1 e2; omega), h j hj, List.getElem?_set_ne (by omega)]
theorem Free.set {w : World} {b off n : Nat} (h : Free w b off n) (p : Addr) (v : Value) : Free (w.setCell p v) b off n := by
  intro j hj
  rw [World.frozen?_setCell]
  exact h j hj
/-- Adr: an address in words: 'none' where there is nothing. -/
theorem Sl.cases {k : IntKind} {w : World} {v : Value} {xs : List Nat} (h : Sl k w v xs) :
    (xs = [] ∧ ∃ a cap, v = .slice a 0 cap) ∨ (xs ≠ [] ∧ ∃ b off cap, v = .slice (some ⟨b, off, none⟩) xs.length cap ∧ xs.length ≤ cap ∧ Seg k w b off xs ∧ b < w.heap.size) := by
  obtain ⟨a, cap, e, hc, h⟩ := h
  by_cases hn : xs = []
  · subst hn; exact Or.inl ⟨rfl, a, cap, e⟩
  · obtain ⟨b, off, e1, h1⟩ := h hn
    subst e1
    exact Or.inr ⟨hn, b, off, cap, e, hc, h1, h1.lt hn⟩
theorem Ow.cases {k : IntKind} {B : Nat} {w : World} {v : Value} {xs : List Nat} (h : Ow k B w v xs) :
    (xs = [] ∧ ∃ a cap, v = .slice a 0 cap) ∨ (xs ≠ [] ∧ ∃ b off cap, v = .slice (some ⟨b, off, none⟩) xs.length cap ∧ xs.length ≤ cap ∧ B ≤ b ∧ Seg k w b off xs ∧ Free w b off xs.length ∧ b < w.heap.size) := by
  obtain ⟨a, cap, e, hc, h⟩ := h
  by_cases hn : xs = []
  · subst hn; exact Or.inl ⟨rfl, a, cap, e⟩
  · obtain ⟨b, off, e1, hB, h1, h2⟩ := h hn
    subst e1
    exact Or.inr ⟨hn, b, off, cap, e, hc, hB, h1, h2, h1.lt hn⟩
/-- A cut at the front of what a slice holds. -/
theorem Sl.take {k : IntKind} {w : World} {a : Option Addr} {n cap : Nat} {xs : List Nat} (h : Sl k w (.slice a n cap) xs) (m : Nat) (hm : m ≤ xs.length) : Sl k w (.slice a m cap) (xs.take m) := by
  obtain ⟨a', cap', e, hc, h⟩ := h
  injection e with e1 e2 e3
  subst e1; subst e3
  refine ⟨a, cap, by simp; omega, by simp; omega, fun hn => ?_⟩
  obtain ⟨b, off, e1, h1⟩ := h (by intro h0; subst h0; simp at hn)
  exact ⟨b, off, e1, h1.take m⟩
theorem Ow.take {k : IntKind} {B : Nat} {w : World} {a : Option Addr} {n cap : Nat} {xs : List Nat} (h : Ow k B w (.slice a n cap) xs) (m : Nat) (hm : m ≤ xs.length) : Ow k B w (.slice a m cap) (xs.take m) := by
  obtain ⟨a', cap', e, hc, h⟩ := h
  injection e with e1 e2 e3
  subst e1; subst e3
  refine ⟨a, cap, by simp; omega, by simp; omega, fun hn => ?_⟩
  obtain ⟨b, off, e1, hB, h1, h2⟩ := h (by intro h0; subst h0; simp at hn)
  exact ⟨b, off, e1, hB, h1.take m, h2.le (by simp; omega)⟩
theorem Sl.len {k : IntKind} {w : World} {a : Option Addr} {n cap : Nat} {xs : List Nat} (h : Sl k w (.slice a n cap) xs) : n = xs.length := by
  obtain ⟨a', cap', e, _⟩ := h
  injection e
theorem Ow.len {k : IntKind} {B : Nat} {w : World} {a : Option Addr} {n cap : Nat} {xs : List Nat} (h : Ow k B w (.slice a n cap) xs) : n = xs.length := h.sl.len
/-- What is owned in the kit's word is owned in ours. -/
theorem ow_of_row {w : World} {B e n : Nat} {v : Value} {xs : List Nat} {k : IntKind} (h : w.ownsRow B e 1 v n (xs.map fun x : Nat => Value.int k (x : Int))) : Ow k B w v xs := by
  have h1 := h.1
  simp at h1
  subst h1
  rcases h.2 with ⟨rfl, h0⟩ | ⟨g, cap, cur, rfl, hg, hh, hc, _, hs, ht⟩
  · obtain rfl : xs = [] := List.eq_nil_of_length_eq_zero h0
    exact Ow_nil _ _ _ _ _
  · refine ⟨_, cap, rfl, hc, fun hn => ⟨g, 0, rfl, hg, fun j hj => ?_, fun j _ => ?_⟩⟩
    · rw [Nat.zero_add, h.cellAt j (by omega)]
      simp [hj]
    · rw [Nat.zero_add]; exact h.frozenAt j
end Go.Proofs.YtpigbnlapcndgaaGreat
namespace Go.Proofs.YtpigbnlapcndgaaGreat
open Go.RowKit

def lenTab : ByteArray := { data := ((([0, 1, 2, 2, 3, 3, 3, 3, 4, 4, 4, 4, 4, 4, 4, 4, 5, 5, 5, 5, 5, 5, 5, 5, 5, 5, 5, 5, 5, 5, 5, 5, 6, 6, 6, 6, 6, 6, 6, 6, 6, 6, 6, 6, 6, 6, 6, 6, 6, 6, 6, 6, 6, 6, 6, 6, 6, 6, 6, 6, 6, 6, 6, 6] : List UInt8).append [7, 7, 7, 7, 7, 7, 7, 7, 7, 7, 7, 7, 7, 7, 7, 7, 7, 7, 7, 7, 7, 7, 7, 7, 7, 7, 7, 7, 7, 7, 7, 7, 7, 7, 7, 7, 7, 7, 7, 7, 7, 7, 7, 7, 7, 7, 7, 7, 7, 7, 7, 7, 7, 7, 7, 7, 7, 7, 7, 7, 7, 7, 7, 7]).append (List.append [8, 8, 8, 8, 8, 8, 8, 8, 8, 8, 8, 8, 8, 8, 8, 8, 8, 8, 8, 8, 8, 8, 8, 8, 8, 8, 8, 8, 8, 8, 8, 8, 8, 8, 8, 8, 8, 8, 8, 8, 8, 8, 8, 8, 8, 8, 8, 8, 8, 8, 8, 8, 8, 8, 8, 8, 8, 8, 8, 8, 8, 8, 8, 8] [8, 8, 8, 8, 8, 8, 8, 8, 8, 8, 8, 8, 8, 8, 8, 8, 8, 8, 8, 8, 8, 8, 8, 8, 8, 8, 8, 8, 8, 8, 8, 8, 8, 8, 8, 8, 8, 8, 8, 8, 8, 8, 8, 8, 8, 8, 8, 8, 8, 8, 8, 8, 8, 8, 8, 8, 8, 8, 8, 8, 8, 8, 8, 8])).toArray }
theorem lenTab_size : lenTab.size = 256 := by decide +kernel

theorem len_tab : ∀ i : Fin 256, 0 < i.val → 1 ≤ (lenTab[i.val]'(by rw [lenTab_size]; exact i.isLt)).toNat ∧ (lenTab[i.val]'(by rw [lenTab_size]; exact i.isLt)).toNat ≤ 8 ∧ 2 ^ ((lenTab[i.val]'(by rw [lenTab_size]; exact i.isLt)).toNat - 1) ≤ i.val ∧ i.val < 2 ^ ((lenTab[i.val]'(by rw [lenTab_size]; exact i.isLt)).toNat) := by
  decide +kernel

theorem len_key (i : Nat) (hi0 : 0 < i) (hi : i < 256) : ∃ n : Nat, (1 ≤ n ∧ n ≤ 8 ∧ 2 ^ (n - 1) ≤ i ∧ i < 2 ^ n) ∧ ∀ w, (Instr.index 9 (.string lenTab) (.int .u8 (i : Int))).run Tryz.prog w = .ok (.int .u8 (n : Int)) w := by
  refine ⟨_, len_tab ⟨i, hi⟩ hi0, fun w => ?_⟩
  rw [run_index_string w 9 lenTab .u8 (i : Int) (by kernel_rfl), dif_pos ⟨by omega, by rw [lenTab_size]; omega⟩]
  rfl

theorem len_shift {x n k : Nat} (h1 : 1 ≤ n) (h : 2 ^ (n - 1) ≤ x / 2 ^ k ∧ x / 2 ^ k < 2 ^ n) : 2 ^ (n + k - 1) ≤ x ∧ x < 2 ^ (n + k) := by
  have p : 0 < 2 ^ k := Nat.two_pow_pos k
  rw [Nat.le_div_iff_mul_le p, Nat.div_lt_iff_lt_mul p] at h
  rw [show n + k - 1 = (n - 1) + k by omega, Nat.pow_add, Nat.pow_add]
  exact h

end Go.Proofs.YtpigbnlapcndgaaGreat
namespace Go.Proofs.YtpigbnlapcndgaaGreat
open Go.RowKit

/-! Two digits by one, the divisor's highest bit set. -/
structure Norm (Y y1 y0 : Nat) : Prop where
  eq : Y = y1 * 4294967296 + y0
  lo : y0 < 4294967296
  ge : 2147483648 ≤ y1
  lt : y1 < 4294967296

/-- A guess q with its remainder r, not too small. -/
structure Gs (Y y1 u d q r : Nat) : Prop where
  sum : q * y1 + r = u
  rlt : r < 4294967296
  big : u * 4294967296 + d < (q + 1) * Y

theorem Gs.start {Y y1 y0 u d : Nat} (n : Norm Y y1 y0) (hd : d < 4294967296) : Gs Y y1 u d (u / y1) (u % y1) := by
  have p : 0 < y1 := by have := n.ge; omega
  have m := Nat.mod_lt u p
  have e : u / y1 * y1 + u % y1 = u := by rw [Nat.mul_comm]; exact Nat.div_add_mod u y1
  refine ⟨e, by have := n.lt; omega, ?_⟩
  rw [n.eq, Nat.mul_add, Nat.add_mul, Nat.add_mul, ← Nat.mul_assoc, Nat.one_mul, Nat.one_mul]
  generalize u / y1 * y1 = A at e ⊢
  omega
theorem mul_norm {Y y1 y0 : Nat} (n : Norm Y y1 y0) (q : Nat) : q * Y = q * y1 * 4294967296 + q * y0 := by
  rw [n.eq, Nat.mul_add, ← Nat.mul_assoc]
/-- The test tells whether the guess is too great. -/
theorem Gs.test {Y y1 y0 u d q r : Nat} (n : Norm Y y1 y0) (g : Gs Y y1 u d q r) : 4294967296 * r + d < q * y0 ↔ u * 4294967296 + d < q * Y := by
  have e := mul_norm n q
  have s := g.sum
  generalize q * y1 = A at e s
  generalize q * y0 = C at e ⊢
  omega
theorem Gs.high {Y y1 u d q r : Nat} (_g : Gs Y y1 u d q r) (hu : u < Y) (hd : d < 4294967296) (hq : 4294967296 ≤ q) : u * 4294967296 + d < q * Y := by
  have : 4294967296 * Y ≤ q * Y := Nat.mul_le_mul_right _ hq
  generalize q * Y = A at this ⊢
  omega
theorem Gs.pos {Y y1 u d q r : Nat} (_g : Gs Y y1 u d q r) (h : u * 4294967296 + d < q * Y) : 0 < q := by
  cases q with
  | zero => simp at h
  | succ q => omega
theorem Gs.down {Y y1 u d q r : Nat} (g : Gs Y y1 u d (q + 1) r) (h : u * 4294967296 + d < (q + 1) * Y) (hr : r + y1 < 4294967296) : Gs Y y1 u d q (r + y1) := by
  refine ⟨?_, hr, h⟩
  have s := g.sum
  rw [Nat.add_mul, Nat.one_mul] at s
  omega
/-- What is known when the loop has ended. -/
def Fits (Y u d q : Nat) : Prop := q < 4294967296 ∧ q * Y ≤ u * 4294967296 + d ∧ u * 4294967296 + d < (q + 1) * Y
theorem Fits.low {Y u d q : Nat} (hu : u < Y) (hd : d < 4294967296) (h : q * Y ≤ u * 4294967296 + d) : q < 4294967296 := by
  rcases Nat.lt_or_ge q 4294967296 with h1 | h1
  · exact h1
  · have : 4294967296 * Y ≤ q * Y := Nat.mul_le_mul_right _ h1
    generalize q * Y = A at this h
    omega
theorem Gs.fits {Y y1 u d q r : Nat} (g : Gs Y y1 u d q r) (hu : u < Y) (hd : d < 4294967296) (h : ¬ u * 4294967296 + d < q * Y) : Fits Y u d q := by
  have h' : q * Y ≤ u * 4294967296 + d := by generalize q * Y = A at h ⊢; omega
  exact ⟨Fits.low hu hd h', h', g.big⟩
theorem Gs.breaks {Y y1 y0 u d q r : Nat} (n : Norm Y y1 y0) (g : Gs Y y1 u d (q + 1) r) (hu : u < Y) (hd : d < 4294967296) (h : u * 4294967296 + d < (q + 1) * Y) (hr : 4294967296 ≤ r + y1) : Fits Y u d q := by
  have s := g.sum
  rw [Nat.add_mul, Nat.one_mul] at s
  have e := mul_norm n q
  have q1 : q < 4294967296 := by
    rcases Nat.lt_or_ge q 4294967296 with h1 | h1
    · exact h1
    · have := Nat.mul_le_mul_right y1 h1
      have := n.eq
      have := n.lo
      generalize q * y1 = A at *
      omega
  have q2 : q * y0 ≤ 4294967296 * 4294967296 := Nat.mul_le_mul (Nat.le_of_lt q1) (Nat.le_of_lt n.lo)
  refine ⟨q1, ?_, h⟩
  generalize q * y1 = A at *
  generalize q * y0 = C at *
  omega
/-- What is left. -/
theorem Fits.rest {Y u d q : Nat} (f : Fits Y u d q) : u * 4294967296 + d - q * Y < Y := by
  have h := f.2.2
  rw [Nat.add_mul, Nat.one_mul] at h
  have := f.2.1
  generalize q * Y = A at *
  omega
theorem two_digits {Y u v1 v0 q1 q0 : Nat} (f1 : Fits Y u v1 q1) (f0 : Fits Y (u * 4294967296 + v1 - q1 * Y) v0 q0) :
    (u * 18446744073709551616 + (v1 * 4294967296 + v0)) % Y = (u * 4294967296 + v1 - q1 * Y) * 4294967296 + v0 - q0 * Y := by
  have r0 := f0.rest
  have h1 := f1.2.1
  have h0 := f0.2.1
  have e : u * 18446744073709551616 + (v1 * 4294967296 + v0) = (q1 * 4294967296 + q0) * Y + ((u * 4294967296 + v1 - q1 * Y) * 4294967296 + v0 - q0 * Y) := by
    rw [Nat.add_mul, show q1 * 4294967296 * Y = q1 * Y * 4294967296 by rw [Nat.mul_assoc, Nat.mul_comm 4294967296, ← Nat.mul_assoc]]
    generalize q1 * Y = A at *
    generalize q0 * Y = C at *
    omega
  rw [e, Nat.mul_comm _ Y, Nat.mul_add_mod, Nat.mod_eq_of_lt r0]

theorem shifted (hi lo s : Nat) (hs : s ≤ 63) : (hi * 18446744073709551616 + lo) * 2 ^ s = (hi * 2 ^ s + lo / 2 ^ (64 - s)) * 18446744073709551616 + lo * 2 ^ s % 18446744073709551616 := by
  have e : lo * 2 ^ s / 18446744073709551616 = lo / 2 ^ (64 - s) := by
    have : (18446744073709551616 : Nat) = 2 ^ (64 - s) * 2 ^ s := by rw [← Nat.pow_add, show 64 - s + s = 64 by omega]
    rw [this, Nat.mul_div_mul_right _ _ (Nat.two_pow_pos s)]
  have m := Nat.div_add_mod (lo * 2 ^ s) 18446744073709551616
  rw [e] at m
  rw [Nat.add_mul, Nat.mul_right_comm]
  generalize hi * 2 ^ s = A at *
  generalize lo * 2 ^ s = C at *
  omega
theorem shifted_lt {hi lo y u v s : Nat} (hh : hi < y) (hl : lo < 18446744073709551616) (e : (hi * 18446744073709551616 + lo) * 2 ^ s = u * 18446744073709551616 + v) : u < y * 2 ^ s := by
  have h1 : hi * 18446744073709551616 + lo < y * 18446744073709551616 := by omega
  have h2 := Nat.mul_lt_mul_of_pos_right h1 (Nat.two_pow_pos s)
  rw [e, Nat.mul_right_comm] at h2
  generalize y * 2 ^ s = A at *
  omega
theorem unshifted (X y s : Nat) : X * 2 ^ s % (y * 2 ^ s) / 2 ^ s = X % y := by
  rw [Nat.mul_mod_mul_right, Nat.mul_div_cancel _ (Nat.two_pow_pos s)]
theorem wrap_cast (n : Nat) (h : n < 18446744073709551616) : IntKind.u64.wrap (n : Int) = (n : Int) := by
  rw [IntKind.wrap_u64]; omega

theorem or_shift (A L s : Nat) (hA : A % 2 ^ s = 0) (hA1 : A < 18446744073709551616) (hL : L < 2 ^ s) (hL1 : L < 18446744073709551616) : bits BinOp.or IntKind.u64 (A : Int) (L : Int) = ((A + L : Nat) : Int) := by
  rw [bits_join .u64 64 (by decide) (fun n h0 h1 => by rw [IntKind.wrap_u64]; omega) s _ _ (by omega) (by exact_mod_cast hA) (by omega) (by omega) (by exact_mod_cast hL) (by omega)]
  push_cast; rfl

end Go.Proofs.YtpigbnlapcndgaaGreat
namespace Go.Proofs.YtpigbnlapcndgaaGreat
open Go.RowKit

/-- -1, 0 or 1. -/
def cmpI (a b : Int) : Int := if a < b then -1 else if b < a then 1 else 0

/-- The sign of an Int's value. -/
def sgn (neg : Bool) (n : Nat) : Int := if n = 0 then 0 else if neg then -1 else 1

end Go.Proofs.YtpigbnlapcndgaaGreat
namespace Go.Proofs.YtpigbnlapcndgaaGreat
open Go.RowKit Go.Shelf
attribute [local go_sem] Oper.semAt_some

/-- How a round of such a loop may end. -/
def backPost {S : Type} (B : Nat) (pos : S → Nat) (I : S → World → Prop) (Ix : Code → World → Prop) (s : S) (W : World) : Exit → Act → World → Prop
  | .normal, _, W' => KeepsFrom B W W' ∧ ∃ s', pos s' = pos s - 1 ∧ I s' W'
  | .ret, _, W' => KeepsFrom B W W' ∧ Ix .ret W'
  | .exit id, _, W' => KeepsFrom B W W' ∧ Ix (.exit id) W'
  | .goto t, _, W' => KeepsFrom B W W' ∧ Ix (.goto t) W'
  | .panic _, _, _ => False
  | .outgrown, _, _ => False

end Go.Proofs.YtpigbnlapcndgaaGreat
