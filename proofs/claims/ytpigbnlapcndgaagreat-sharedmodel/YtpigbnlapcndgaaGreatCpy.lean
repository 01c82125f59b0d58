/-
  Rows of bytes that a call has made.
  Copies of the rows of three widths.
  All of cells.
-/
import Derived.Test.YtpigbnlapcndgaaGreatCrw
import Derived.Deep.RegionHeld3
import Derived.Deep.CutRange
namespace Go.Proofs.YtpigbnlapcndgaaGreat
open Go.RowKit Go.WideShapes

theorem Tryz.infoByte : (Tryz.prog.info? 5).map (fun i => (i.zero, i.size, i.bytes)) = some (some (.int .u8 0), 1, 1) := by kernel_rfl
/-- The first m of these bytes, in a row of one's own. -/
def bl (m : Nat) (g : Nat → Int) : List Value := (List.range m).map fun j => Value.int .u8 (g j)
theorem bl_len (m : Nat) (g : Nat → Int) : (bl m g).length = m := by simp [bl]
theorem bl_succ (m : Nat) (g : Nat → Int) : bl (m + 1) g = bl m g ++ [Value.int .u8 (g m)] := by simp [bl, List.range_succ]
theorem bl_get (m : Nat) (g : Nat → Int) (j : Nat) (hj : j < m) : (bl m g)[j]? = some (.int .u8 (g j)) := by simp [bl, hj]
def Byt (B : Nat) (w : World) (v : Value) (m : Nat) (g : Nat → Int) : Prop := w.ownsRow B 5 1 v m (bl m g)
theorem Byt.nil (B : Nat) (w : World) (g : Nat → Int) : Byt B w (.slice none 0 0) 0 g := ⟨rfl, Or.inl ⟨rfl, rfl⟩⟩
theorem Byt.snoc {B : Nat} {w : World} {v : Value} {m : Nat} {g : Nat → Int} {x : Int} (h : w.ownsRow B 5 1 v (m + 1) (bl m g ++ [Value.int .u8 x])) (e : x = g m) : Byt B w v (m + 1) g := by
  unfold Byt
  rw [bl_succ, ← e]
  exact h
theorem new_one (w : World) (x : Value) (t : TypeId) : ∀ j u, [x][j]? = some u → (w.alloc (.cells #[x] t)).cell? (Addr.add ⟨w.heap.size, 0, none⟩ j) = some u := by
  intro j u hj
  match j, hj with
  | 0, hj => rw [WideShapes.add_plain, World.cell?_alloc_at _ _ _ _ rfl]; simpa using hj
  | j + 1, hj => simp at hj
theorem below_grown {B n : Nat} {w wr w1 : World} {v : Value} {xs : List Value} {o : Obj} {t : TypeId} (hb : Below B w wr) (hB : B ≤ w.heap.size) (hown : wr.ownsRow B t 1 v n xs) (hg : (wr.alloc o).grownBy w1 v.ownBlock) : Below B w w1 := by
  refine (hb.alloc (Nat.le_trans hB hb.size) o).grown hg (by simp; have := hb.size; omega) (fun k e => ?_)
  rcases hown.2 with ⟨rfl, _⟩ | ⟨g, cap, cur, rfl, h1, _⟩
  · cases e
  · simp [Value.ownBlock] at e
    omega
/-- Byte j of cells of W bytes. -/
def bt (W : Nat) (f : Nat → Int) (j : Nat) : Int := f (j / W) / 256 ^ (j % W) % 256
theorem bt_at (W i k : Nat) (f : Nat → Int) (hk : k < W) : bt W f (i * W + k) = f i / 256 ^ k % 256 := by
  unfold bt
  rw [Nat.mul_comm i W, Nat.mul_add_div (by omega), Nat.div_eq_of_lt hk, Nat.add_zero, Nat.mul_add_mod, Nat.mod_eq_of_lt hk]
end Go.Proofs.YtpigbnlapcndgaaGreat
namespace Go.Proofs.YtpigbnlapcndgaaGreat
open Go.RowKit Go.WideShapes

/-- The first n of these numbers, in a row. -/
def nl (k : IntKind) (n : Nat) (f : Nat → Int) : List Value := (List.range n).map fun j => Value.int k (f j)
theorem nl_len (k : IntKind) (n : Nat) (f : Nat → Int) : (nl k n f).length = n := by simp [nl]
theorem nl_get (k : IntKind) (n : Nat) (f : Nat → Int) (j : Nat) (hj : j < n) : (nl k n f)[j]? = some (.int k (f j)) := by simp [nl, hj]
theorem nl_cells {w : World} {h n : Nat} {k : IntKind} {f : Nat → Int} (hc : ∀ j, j < n → w.cell? ⟨h, j, none⟩ = some (.int k (f j))) : ∀ j u, (nl k n f)[j]? = some u → w.cell? (Addr.add ⟨h, 0, none⟩ j) = some u := by
  intro j u hj
  by_cases hlt : j < n
  · rw [nl_get _ _ _ _ hlt] at hj
    rw [WideShapes.add_plain, Nat.zero_add, hc j hlt, hj]
  · rw [List.getElem?_eq_none (by rw [nl_len]; omega)] at hj
    simp at hj
/-- What a copy is. -/
structure Cpy (w w' : World) (g S cap : Nat) (k : IntKind) (f : Nat → Int) : Prop where
  ge : w.heap.size ≤ g
  le : S ≤ cap
  hc : ∀ j, j < S → w'.cell? ⟨g, j, none⟩ = some (.int k (f j))
  hz : ∀ j, w'.frozen? ⟨g, j, none⟩ = false
  b : Below w.heap.size w w'
theorem cpy_of {w w2 : World} {t : TypeId} {k : IntKind} {v : Value} {S B : Nat} {f : Nat → Int} (hS : 0 < S) (hB : B = w.heap.size) (h : w2.ownsRow B t 1 v (0 + S) ([] ++ nl k S f)) (hg : (w.alloc (.cells #[] t)).grownBy w2 (some B)) :
    ∃ g cap, v = .slice (some ⟨g, 0, none⟩) S cap ∧ Cpy w w2 g S cap k f := by
  subst hB
  rw [Nat.zero_add, List.nil_append] at h
  rcases h.2 with ⟨_, h0⟩ | ⟨g, cap, cur, rfl, h1, h2, h3, _⟩
  · omega
  · refine ⟨g, cap, rfl, h1, h3, fun j hj => ?_, fun j => h.frozenAt j, ?_⟩
    · rw [h.cellAt j (by omega), nl_get _ _ _ _ hj]
    · exact (((Below.refl _ w).alloc (Nat.le_refl _) _).grown hg (by simp) (fun k e => by simp at e; omega))
theorem rw_copy {w w2 : World} {g S cap W : Nat} {k : IntKind} {f : Nat → Int} {ty : TypeId} (h : Cpy w w2 g S cap k f) (hS0 : 0 < S) : Rw (w2.alloc (.cells #[.int .i64 (W : Int), .slice (some ⟨g, 0, none⟩) S cap] ty)) w2.heap.size g k W S cap f := by
  have e : (w2.alloc (.cells #[.int .i64 (W : Int), .slice (some ⟨g, 0, none⟩) S cap] ty)).heap[g]? = w2.heap[g]? := Below.heap_alloc _ _ _ (lt_of_cell (h.hc 0 hS0))
  exact ⟨by rw [World.cell?_alloc_at _ _ _ _ rfl]; rfl, by rw [World.cell?_alloc_at _ _ _ _ rfl]; rfl, h.le, fun j hj => (World.cell?_of_block (a := ⟨g, j, none⟩) e).trans (h.hc j hj), fun j => (World.frozen?_of_block (a := ⟨g, j, none⟩) e).trans (h.hz j)⟩

end Go.Proofs.YtpigbnlapcndgaaGreat
namespace Go.Proofs.YtpigbnlapcndgaaGreat
open Go.RowKit Go.WideShapes

/-- What All hands out: a copy's each. -/
def itv (L r : Nat) : Value := .func (.method "lexicon/cells.each") #[.iface (rty L) (.pointer (some ⟨r, 0, none⟩))] #[]
end Go.Proofs.YtpigbnlapcndgaaGreat
