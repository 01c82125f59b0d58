/-
  Rows of bytes that a call has made.
-/
import Derived.Test.YthaijfjodfgbnaaCeGet
namespace Go.Proofs.Ythaijfjodfgbnaa
open Go.RowKit Go.WideShapes

theorem Try.infoByte : (Try.prog.info? 5).map (fun i => (i.zero, i.size, i.bytes)) = some (some (.int .u8 0), 1, 1) := by kernel_rfl
/-- The first m of these bytes, in a row of one's own. -/
def bl (m : Nat) (g : Nat → Int) : List Value := (List.range m).map fun j => Value.int .u8 (g j)
theorem bl_len (m : Nat) (g : Nat → Int) : (bl m g).length = m := by simp [bl]
theorem bl_succ (m : Nat) (g : Nat → Int) : bl (m + 1) g = bl m g ++ [Value.int .u8 (g m)] := by simp [bl, List.range_succ]
theorem bl_get (m : Nat) (g : Nat → Int) (j : Nat) (hj : j < m) : (bl m g)[j]? = some (.int .u8 (g j)) := by simp [bl, hj]
def Byt (B : Nat) (w : World) (v : Value) (m : Nat) (g : Nat → Int) : Prop := w.ownsRow B 5 1 v m (bl m g)
theorem Byt.nil (B : Nat) (w : World) (g : Nat → Int) : Byt B w (.slice none 0 0) 0 g := ⟨rfl, Or.inl ⟨rfl, rfl⟩⟩
theorem Byt.snoc {B : Nat} {w : World} {v : Value} {m : Nat} {g : Nat → Int} {x : Int} (h : w.ownsRow B 5 1 v (m + 1) (bl m g ++ [Value.int .u8 x])) (e : x = g m) : Byt B w v (m + 1) g := by
  unfold Byt
  rw [bl_succ, ← e]
  exact h
theorem new_one (w : World) (x : Value) (t : TypeId) : ∀ j u, [x][j]? = some u → (w.alloc (.cells #[x] t)).cell? (Addr.add ⟨w.heap.size, 0, none⟩ j) = some u := by
  intro j u hj
  match j, hj with
  | 0, hj => rw [WideShapes.add_plain, World.cell?_alloc_at _ _ _ _ rfl]; simpa using hj
  | j + 1, hj => simp at hj
theorem below_grown {B n : Nat} {w wr w1 : World} {v : Value} {xs : List Value} {o : Obj} {t : TypeId} (hb : Below B w wr) (hB : B ≤ w.heap.size) (hown : wr.ownsRow B t 1 v n xs) (hg : (wr.alloc o).grownBy w1 v.ownBlock) : Below B w w1 := by
  refine (hb.alloc (Nat.le_trans hB hb.size) o).grown hg (by simp; have := hb.size; omega) (fun k e => ?_)
  rcases hown.2 with ⟨rfl, _⟩ | ⟨g, cap, cur, rfl, h1, _⟩
  · cases e
  · simp [Value.ownBlock] at e
    omega
/-- Byte j of cells of W bytes. -/
def bt (W : Nat) (f : Nat → Int) (j : Nat) : Int := f (j / W) / 256 ^ (j % W) % 256
theorem bt_at (W i k : Nat) (f : Nat → Int) (hk : k < W) : bt W f (i * W + k) = f i / 256 ^ k % 256 := by
  unfold bt
  rw [Nat.mul_comm i W, Nat.mul_add_div (by omega), Nat.div_eq_of_lt hk, Nat.add_zero, Nat.mul_add_mod, Nat.mod_eq_of_lt hk]
end Go.Proofs.Ythaijfjodfgbnaa
