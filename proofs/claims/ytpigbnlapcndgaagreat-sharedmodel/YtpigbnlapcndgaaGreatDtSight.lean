/-
  Sight.
-/
import Derived.Test.YtpigbnlapcndgaaGreatDta
import Derived.Test.YtpigbnlapcndgaaGreatDtc
import Derived.Test.YtpigbnlapcndgaaGreatCpy
import Derived.Test.YtpigbnlapcndgaaGreatCeSeq
import Derived.Test.YtpigbnlapcndgaaGreatLwMem
namespace Go.Proofs.YtpigbnlapcndgaaGreat
open Go.RowKit Go.WideShapes
attribute [local go_sem] Oper.semAt_some

/-- Ints in a block of their own. -/
def Row1 (w : World) (h S : Nat) (f : Nat → Int) : Prop := w.heap[h]? = some (.cells (il S f).toArray 3 (0, 0))
theorem Row1.cell {w : World} {h S : Nat} {f : Nat → Int} (x : Row1 w h S f) (j : Nat) (hj : j < S) : w.cell? ⟨h, j, none⟩ = some (.int .i64 (f j)) := by
  unfold Row1 at x
  simp [World.cell?, x, il, hj]
theorem Row1.free {w : World} {h S : Nat} {f : Nat → Int} (x : Row1 w h S f) (j : Nat) : w.frozen? ⟨h, j, none⟩ = false := by
  unfold Row1 at x
  simp [World.frozen?, x]
theorem Row1.same {w w' : World} {h S : Nat} {f : Nat → Int} (x : Row1 w h S f) (e : w'.heap[h]? = w.heap[h]?) : Row1 w' h S f := e.trans x
theorem Row1.lt {w : World} {h S : Nat} {f : Nat → Int} (x : Row1 w h S f) : h < w.heap.size := (Array.getElem?_eq_some_iff.1 x).1
theorem il_upd (S : Nat) (f : Nat → Int) (i : Nat) (v : Int) : (il S f).toArray.setIfInBounds i (.int .i64 v) = (il S (upd f i v)).toArray := by
  apply Array.ext
  · simp [il]
  · intro j h1 h2
    simp [il] at h1
    by_cases e : j = i
    · subst e
      simp [il, upd]
    · have e' : ¬ i = j := fun x => e x.symm
      simp [il, upd, e, e']
theorem Row1.put {w : World} {h S : Nat} {f : Nat → Int} (x : Row1 w h S f) (i : Nat) (v : Int) : Row1 (w.setCell ⟨h, i, none⟩ (.int .i64 v)) h S (upd f i v) := by
  unfold Row1
  rw [setCell_eq_setRow w h i _ _ _ _ x, setRow_heap w h _ _ _ _ x, il_upd]
theorem Row1.own {w : World} {h S B : Nat} {f : Nat → Int} (x : Row1 w h S f) (hB : B ≤ h) (hS : S ≤ maxLen) : w.ownsRow B 3 1 (.slice (some ⟨h, 0, none⟩) S S) S (il S f) :=
  ⟨by rw [il_len, Nat.mul_one], .inr ⟨h, S, _, rfl, hB, x, Nat.le_refl _, hS, by simp [il_len], by simp; exact List.take_of_length_le (by rw [il_len]; exact Nat.le_refl _)⟩⟩
theorem row1_made {w : World} {B h S : Nat} (x : w.ownsRow B 3 1 (.slice (some ⟨h, 0, none⟩) S S) S (madeCells (Value.int .i64 0).cells (S * 1)).toList) : Row1 w h S (fun _ => 0) := by
  rcases x.2 with ⟨e, _⟩ | ⟨g, cap, cur, e, h1, h2, h3, h4, h5, h6⟩
  · cases e
  cases e
  have hc : cur = (il S (fun _ => 0)).toArray := by
    have h7 : cur.toList = (madeCells (Value.int .i64 0).cells (S * 1)).toList := by rw [← h6, List.take_of_length_le (by rw [Array.length_toList, h5]; exact Nat.le_refl _)]
    apply Array.toList_inj.1
    rw [h7]
    apply List.ext_getElem?
    intro j
    by_cases hj : j < S
    · simp [madeCells, il, Value.cells, hj, Nat.mod_one]
    · simp [madeCells, il, Value.cells, hj, Nat.mod_one]
  unfold Row1
  rw [h2, hc]
theorem Row1.congr {w : World} {h S : Nat} {f f' : Nat → Int} (x : Row1 w h S f) (e : ∀ j, j < S → f' j = f j) : Row1 w h S f' := by
  unfold Row1 at x ⊢
  rw [x]
  have : il S f = il S f' := by
    unfold il
    apply List.map_congr_left
    intro j hj
    rw [e j (List.mem_range.1 hj)]
  rw [this]
/-- What Sight tells of t, in new rows. -/
structure SgV (B : Nat) (w : World) (t : Tb) (hc : Nat) (ev' : Value) : Prop where
  row : Row1 w hc (2 ^ t.L) t.c
  es : EsB B w ev' (shw t.es)
  hB : B ≤ hc
  ne : ev'.ownBlock ≠ some hc
def sgV (t : Tb) (hc : Nat) (ev' : Value) : Value := .agg #[.int .i64 (t.L : Int), .int .i64 (wd t.L : Int), .slice (some ⟨hc, 0, none⟩) (2 ^ t.L) (2 ^ t.L), ev', .int .i64 (t.live : Int), .int .i64 (t.births : Int), .int .i64 (t.made : Int)]
def zS : Nat → Value
  | 2 => .slice none 0 0
  | 3 => .slice none 0 0
  | _ => .int .i64 0
/-- Seven cells set. -/
def put7 (w : World) (R : Nat) (v0 v1 v2 v3 v4 v5 v6 : Value) : World := ((((((w.setCell ⟨R, 0, none⟩ v0).setCell ⟨R, 1, none⟩ v1).setCell ⟨R, 2, none⟩ v2).setCell ⟨R, 3, none⟩ v3).setCell ⟨R, 4, none⟩ v4).setCell ⟨R, 5, none⟩ v5).setCell ⟨R, 6, none⟩ v6
theorem put7_other (w : World) (R : Nat) (v0 v1 v2 v3 v4 v5 v6 : Value) (k : Nat) (hk : k ≠ R) : (put7 w R v0 v1 v2 v3 v4 v5 v6).heap[k]? = w.heap[k]? := by
  unfold put7
  rw [Below.heap_setCell _ _ _ _ hk, Below.heap_setCell _ _ _ _ hk, Below.heap_setCell _ _ _ _ hk, Below.heap_setCell _ _ _ _ hk, Below.heap_setCell _ _ _ _ hk, Below.heap_setCell _ _ _ _ hk, Below.heap_setCell _ _ _ _ hk]
theorem put7_size (w : World) (R : Nat) (v0 v1 v2 v3 v4 v5 v6 : Value) : (put7 w R v0 v1 v2 v3 v4 v5 v6).heap.size = w.heap.size := by unfold put7; simp
theorem put7_below {B : Nat} {a w : World} (h : Below B a w) (R : Nat) (hR : B ≤ R) (v0 v1 v2 v3 v4 v5 v6 : Value) : Below B a (put7 w R v0 v1 v2 v3 v4 v5 v6) := by
  unfold put7
  exact ((((((h.setCell (p := ⟨R, 0, none⟩) hR _).setCell (p := ⟨R, 1, none⟩) hR _).setCell (p := ⟨R, 2, none⟩) hR _).setCell (p := ⟨R, 3, none⟩) hR _).setCell (p := ⟨R, 4, none⟩) hR _).setCell (p := ⟨R, 5, none⟩) hR _).setCell (p := ⟨R, 6, none⟩) hR _
theorem put7_blk {w : World} {R : Nat} {F : Nat → Value} (h : Blk w R 7 F) (v0 v1 v2 v3 v4 v5 v6 : Value) : Blk (put7 w R v0 v1 v2 v3 v4 v5 v6) R 7 (fun j => [v0, v1, v2, v3, v4, v5, v6].getD j .nilFunc) := by
  unfold put7
  refine (((((((h.put 0 v0).put 1 v1).put 2 v2).put 3 v3).put 4 v4).put 5 v5).put 6 v6).congr fun j hj => ?_
  have : j = 0 ∨ j = 1 ∨ j = 2 ∨ j = 3 ∨ j = 4 ∨ j = 5 ∨ j = 6 := by omega
  rcases this with rfl | rfl | rfl | rfl | rfl | rfl | rfl <;> rfl
theorem Tryz.infoI : (Tryz.prog.info? 3).map (fun i => (i.zero, i.size, i.bytes)) = some (some (.int .i64 0), 1, 8) := by kernel_rfl
end Go.Proofs.YtpigbnlapcndgaaGreat
