/-
  What addInto and addWords do.
-/
import Derived.Laws.CopyOwn
import Derived.Test.YtfcnljdededdjaaMade
namespace Go.Proofs.Ytfcnljdededdjaa
open Go.RowKit

/-- From w to w' only the n cells at ⟨g, off⟩ may have turned. -/
structure OnlyRow (w w' : World) (g off n : Nat) : Prop where
  os : w'.os = w.os
  tape : w'.tape = w.tape
  output : w'.output = w.output
  size : w'.heap.size = w.heap.size
  block : ∀ k, k ≠ g → w'.heap[k]? = w.heap[k]?
  cell : ∀ o, (o < off ∨ off + n ≤ o) → w'.cell? ⟨g, o, none⟩ = w.cell? ⟨g, o, none⟩
  frozen : ∀ p, w'.frozen? p = w.frozen? p
theorem OnlyRow.refl (w : World) (g off n : Nat) : OnlyRow w w g off n := ⟨rfl, rfl, rfl, rfl, fun _ _ => rfl, fun _ _ => rfl, fun _ => rfl⟩
theorem OnlyRow.set {w w' : World} {g off n : Nat} (h : OnlyRow w w' g off n) (i : Nat) (hi : i < n) (v : Value) : OnlyRow w (w'.setCell ⟨g, off + i, none⟩ v) g off n := by
  refine ⟨h.os, h.tape, h.output, by rw [← h.size]; simp [World.setCell], fun k hk => ?_, fun o ho => ?_, fun p => ?_⟩
  · rw [Below.heap_setCell _ _ _ _ hk]; exact h.block k hk
  · rw [World.cell?_setCell_other _ _ _ _ (by intro e; injection e with _ e; omega)]; exact h.cell o ho
  · rw [World.frozen?_setCell]; exact h.frozen p
theorem OnlyRow.below {w w' : World} {g off n B : Nat} (h : OnlyRow w w' g off n) (hB : B ≤ g) : Below B w w' :=
  ⟨h.os, h.tape, h.output, by rw [h.size]; exact Nat.le_refl _, fun k hk => h.block k (by omega)⟩
theorem OnlyRow.seg {k : IntKind} {w w' : World} {g off n b o : Nat} {xs : List Nat} (h : OnlyRow w w' g off n) (hs : Seg k w b o xs) (hb : b ≠ g) : Seg k w' b o xs :=
  fun j hj => (World.cell?_of_block (a := ⟨b, o + j, none⟩) (h.block b hb)).trans (hs j hj)

theorem val_take_succ' (xs : List Nat) (k : Nat) : val (xs.take (k + 1)) = val (xs.take k) + pw k * (xs[k]?.getD 0) := by
  rcases Nat.lt_or_ge k xs.length with h | h
  · exact val_take_succ xs k h
  · rw [List.take_of_length_le (by omega), List.take_of_length_le h, List.getElem?_eq_none h]; simp
theorem val_split (xs : List Nat) (k : Nat) (h : k ≤ xs.length) : val xs = val (xs.take k) + pw k * val (xs.drop k) := by
  have := val_append (xs.take k) (xs.drop k)
  rw [List.take_append_drop, List.length_take, Nat.min_eq_left h] at this
  exact this
theorem okw_drop {xs : List Nat} (h : okw xs) (k : Nat) : okw (xs.drop k) := fun x hx => h x (List.mem_of_mem_drop hx)
theorem set_mid (ds xs : List Nat) (k d : Nat) (hd : ds.length = k) (hk : k < xs.length) : (ds ++ xs.drop k).set k d = (ds ++ [d]) ++ xs.drop (k + 1) := by
  subst hd
  rw [List.set_append_right _ _ (Nat.le_refl _), Nat.sub_self, List.append_assoc, List.drop_eq_getElem_cons hk]
  rfl
/-- One word of a row that is gone through is written. -/
theorem seg_mid {k : IntKind} {w : World} {g off i : Nat} {ds xs : List Nat} (h : Seg k w g off (ds ++ xs.drop i)) (hd : ds.length = i) (hi : i < xs.length) (d : Nat) : Seg k (w.setCell ⟨g, off + i, none⟩ (.int k (d : Int))) g off ((ds ++ [d]) ++ xs.drop (i + 1)) := by
  rw [← set_mid ds xs i d hd hi]
  exact h.set i (by simp; omega) d
theorem add_val {xs ys ds : List Nat} {k cv d c x y : Nat} (h : val ds + pw k * cv = val (xs.take k) + val (ys.take k)) (hd : ds.length = k) (ex : xs[k]?.getD 0 = x) (ey : ys[k]?.getD 0 = y) (hs : x + y + cv = d + 4294967296 * c) :
    val (ds ++ [d]) + pw (k + 1) * c = val (xs.take (k + 1)) + val (ys.take (k + 1)) := by
  rw [val_append, hd, val_take_succ', val_take_succ', ex, ey]
  simp only [val, pw]
  have e : pw k * (x + y + cv) = pw k * (d + 4294967296 * c) := by rw [hs]
  rw [Nat.mul_add, Nat.mul_add, Nat.mul_add] at e
  have e2 : 4294967296 * pw k * c = pw k * (4294967296 * c) := by rw [Nat.mul_comm 4294967296 (pw k), Nat.mul_assoc]
  rw [e2]
  simp only [Nat.mul_zero, Nat.add_zero]
  omega

/-- Block g is a row of these numbers, the call's own. -/
def Row (k : IntKind) (t : TypeId) (w : World) (g : Nat) (xs : List Nat) : Prop := w.heap[g]? = some (.cells (xs.map fun x : Nat => Value.int k (x : Int)).toArray t (0, 0))
theorem Row.seg {k : IntKind} {t : TypeId} {w : World} {g : Nat} {xs : List Nat} (h : Row k t w g xs) : Seg k w g 0 xs := by
  intro j hj
  unfold World.cell?
  rw [show w.heap[g]? = _ from h]
  simp [hj]
theorem Row.free {k : IntKind} {t : TypeId} {w : World} {g : Nat} {xs : List Nat} (h : Row k t w g xs) (off n : Nat) : Free w g off n := by
  intro j _
  unfold World.frozen?
  rw [show w.heap[g]? = _ from h]
  simp
theorem Row.lt {k : IntKind} {t : TypeId} {w : World} {g : Nat} {xs : List Nat} (h : Row k t w g xs) : g < w.heap.size := (Array.getElem?_eq_some_iff.1 h).1
/-- What 'make' has laid. -/
theorem row_made {w : World} {B t n g : Nat} {k : IntKind} (h : w.ownsRow B t 1 (.slice (some ⟨g, 0, none⟩) n n) n (madeCells (Value.int k 0).cells (n * 1)).toList) : Row k t w g (List.replicate n 0) := by
  rcases h.2 with ⟨e, _⟩ | ⟨g', cap, cur, e, _, hh, _, _, hs, ht⟩
  · cases e
  · injection e with e1 e2 e3
    injection e1 with e1
    injection e1 with e1
    subst e1; subst e3
    unfold Row
    rw [hh]
    simp only [Nat.mul_one] at hs ht
    rw [List.take_of_length_le (by simp [hs])] at ht
    have e : cur = (List.replicate n (Value.int k 0)).toArray := by
      rw [← Array.toArray_toList (xs := cur), ht]
      rw [show (Value.int k 0).cells = #[Value.int k 0] from rfl, toList_madeCells_one]
    rw [e]
    simp
theorem map_splice (L : List Nat) (off : Nat) (cs : List Nat) (f : Nat → Value) : splice (L.map f) off (cs.map f) = (splice L off cs).map f := by simp [splice]
/-- A number in words: its row is the call's own, trimmed. -/
def NumIs (B : Nat) (w : World) (v : Value) (n : Nat) : Prop := ∃ xs, Ow .u32 B w v xs ∧ okw xs ∧ Tr xs ∧ val xs = n
theorem NumIs.below {B : Nat} {w w' : World} {v : Value} {n : Nat} (h : NumIs B w v n) (hb : Below w.heap.size w w') : NumIs B w' v n := by
  obtain ⟨xs, h1, h2⟩ := h
  exact ⟨xs, h1.below hb, h2⟩
theorem NumIs.mono {B B' : Nat} {w : World} {v : Value} {n : Nat} (h : NumIs B w v n) (hB : B' ≤ B) : NumIs B' w v n := by
  obtain ⟨xs, h1, h2⟩ := h
  exact ⟨xs, h1.mono hB, h2⟩

theorem Try.sizeWord : (Try.prog.info? 39).map (·.size) = some 1 := by kernel_rfl
/-- The cells of the words of a slice. -/
def From (w : World) (a : Option Addr) (X : List Value) : Prop := 0 < X.length → ∃ ad, a = some ad ∧ ∀ j u, X[j]? = some u → w.cell? (ad.add j) = some u
theorem From.below {w w' : World} {a : Option Addr} {X : List Value} (h : From w a X) (hb : Below w.heap.size w w') : From w' a X := fun h0 => by
  obtain ⟨ad, e, h⟩ := h h0
  refine ⟨ad, e, fun j u hu => ?_⟩
  have := h j u hu
  rw [hb.cell (World.block_lt_of_cell? _ _ this)]
  exact this
theorem from_of_sl {k : IntKind} {w : World} {a : Option Addr} {n cap : Nat} {xs : List Nat} (h : Sl k w (.slice a n cap) xs) : From w a (xs.map fun x : Nat => Value.int k (x : Int)) := fun h0 => by
  rcases h.cases with ⟨rfl, _⟩ | ⟨_, b, off, cap', e, _, hs, _⟩
  · simp at h0
  · injection e with e1
    exact ⟨_, e1, seg_cells hs⟩
theorem splice_front (xs : List Nat) : splice (List.replicate (xs.length + 1) 0) 0 xs = xs ++ [0] := by
  simp [splice, List.replicate_succ']
/-- The row behind 'make' and 'copy'. -/
theorem row_front {w : World} {g : Nat} {xs : List Nat} (h : w.heap[g]? = some (.cells (splice ((List.replicate (xs.length + 1) 0).map fun x : Nat => Value.int .u32 (x : Int)) 0 (xs.map fun x : Nat => Value.int .u32 (x : Int))).toArray 39 (0, 0))) : Row .u32 39 w g (xs ++ [0]) := by
  rw [map_splice, splice_front] at h
  exact h

theorem seg_snoc {k : IntKind} {w : World} {g : Nat} {zs : List Nat} {u : Value} (h : Seg k w g 0 zs) (hc : w.cell? ⟨g, zs.length, none⟩ = some u) (c : Nat) : Seg k (w.setCell ⟨g, zs.length, none⟩ (.int k (c : Int))) g 0 (zs ++ [c]) := by
  intro j hj
  rw [List.length_append] at hj
  by_cases hjz : j = zs.length
  · subst hjz
    rw [Nat.zero_add, World.cell?_setCell_same' _ _ _ (by rw [hc]; rfl)]
    simp
  · have hj' : j < zs.length := by simp at hj; omega
    rw [World.cell?_setCell_other _ _ _ _ (by intro e; injection e with _ e; omega), h j hj', List.getElem?_append_left hj']

end Go.Proofs.Ytfcnljdededdjaa
