/-
  Rows of bytes that a call has made: as texts.
-/
import Derived.Test.YtgillafjccgkdaaDoorLeLen
import Derived.Lib.AppendStr
import Derived.Lib.UnsafeStr
import Derived.Laws.BytesArg
namespace Go.Proofs.YtgillafjccgkdaaDoor
open Go.RowKit Go.Lib

/-- A slice of bytes that the call has made. -/
def OwnB (B : Nat) (w : World) (v : Value) (bs : List UInt8) : Prop := w.ownsRow B 5 1 v bs.length (Lib.byteCells bs)
theorem Tryd.infoByte : (Tryd.prog.info? 5).map (fun i => (i.zero, i.size, i.bytes)) = some (some (.int .u8 0), 1, 1) := by kernel_rfl
theorem str_nums (bs : List UInt8) : strOfNums (bs.map fun b => ((b.toNat : Nat) : Int)) = ⟨bs.toArray⟩ := by
  unfold strOfNums
  congr 1
  congr 1
  rw [List.map_map]
  conv => rhs; rw [← List.map_id bs]
  apply List.map_congr_left
  intro b _
  simp
theorem OwnB.form {B : Nat} {w : World} {v : Value} {bs : List UInt8} (h : OwnB B w v bs) : ∃ a cap, v = .slice a bs.length cap := by
  rcases h.2 with ⟨rfl, h0⟩ | ⟨g, cap, cur, rfl, _⟩
  · exact ⟨none, 0, by rw [h0]⟩
  · exact ⟨_, cap, rfl⟩
theorem conv_bytes {B : Nat} {w : World} {v : Value} {bs : List UInt8} (h : OwnB B w v bs) : (convert 25 9 v).run Tryd.prog w = .ok (.string ⟨bs.toArray⟩) w := by
  rcases h.2 with ⟨rfl, h0⟩ | ⟨g, cap, cur, rfl, hg, hh, hc, _, hs, ht⟩
  · obtain rfl : bs = [] := List.eq_nil_of_length_eq_zero h0
    exact run_convert_bytes_nil w _ 5 Tryd.underlying25 Tryd.underlying5 _ _ _ Tryd.underlying9
  · have hcell := h.cells (g := g) rfl
    rw [run_convert_bytes_arg w _ 5 Tryd.underlying25 Tryd.underlying5 g 0 bs.length cap (bs.map fun b => ((b.toNat : Nat) : Int)) (by simp) ?_ _ Tryd.underlying9, str_nums]
    intro j hj
    have := hcell j (.int .u8 (((bs[j]'hj).toNat : Nat) : Int)) (by simp [Lib.byteCells, hj])
    rw [WideShapes.add_plain] at this
    rw [this]
    simp [List.getD, hj]
theorem OwnB.nil (B : Nat) (w : World) : OwnB B w (.slice none 0 0) [] := World.ownsRow_nil _ _ _ _
end Go.Proofs.YtgillafjccgkdaaDoor
