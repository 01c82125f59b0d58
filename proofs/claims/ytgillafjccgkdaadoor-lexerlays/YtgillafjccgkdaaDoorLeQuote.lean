/-
  What letters.Quote does.
-/
import Derived.Test.YtgillafjccgkdaaDoorLeQQ
import Derived.Lib.QuoteBits
namespace Go.Proofs.YtgillafjccgkdaaDoor
open Go.RowKit Go.Lib

set_option maxRecDepth 100000 in
theorem dig_table : ∀ d : Fin 16, ((ByteArray.mk #[48, 49, 50, 51, 52, 53, 54, 55, 56, 57, 97, 98, 99, 100, 101, 102])[d.val]'(by have := d.isLt; exact this)).toNat = (hexDig d.val).toNat := by decide +kernel
theorem dig_run (k : IntKind) (d : Nat) (h : d < 16) (wx : World) : (Instr.index 9 (.string ⟨#[48, 49, 50, 51, 52, 53, 54, 55, 56, 57, 97, 98, 99, 100, 101, 102]⟩) (.int k (d : Int))).run Tryd.prog wx = .ok (.int .u8 (((hexDig d).toNat : Nat) : Int)) wx := by
  rw [run_index_string wx 9 _ k _ Tryd.underlying9, dif_pos ⟨by omega, by show (d : Int) < 16; omega⟩]
  congr 2
  exact congrArg _ (dig_table ⟨d, h⟩)
/-- A builder behind a rune more. -/
theorem wr_any (B b : Nat) (bs : List UInt8) (r : Nat) (hr : r ≤ 1114111) (w : World) (h : Lib.IsBuilderF 63 5 B b (Lib.byteCells bs) w) (hlen : bs.length ≤ 2000000) (hBw : B ≤ w.heap.size) :
    Calls Tryd.prog 38 #[.pointer (some ⟨b, 0, none⟩), .int .i32 (r : Int)] w fun e w' => e = .returned (.tuple #[.int .i64 ((Lib.runeCells (r : Int)).length : Int), .nilIface]) ∧ Lib.IsBuilderF 63 5 B b (Lib.byteCells (bs ++ enc r)) w' ∧ Below B w w' ∧ Lib.OthersKept 5 (some b) w w' := by
  refine (Tryd.Builder_WriteRune_k B b (Lib.byteCells bs) (r : Int) (by omega) (by omega) w h (by rw [Lib.byteCells_length]; omega) hBw).mono ?_
  rintro e w1 ⟨rfl, h1, h2, h3⟩
  refine ⟨rfl, ?_, h2, h3⟩
  unfold enc
  rw [Lib.byteCells_append, Lib.byteCells_encodeRune]
  exact .inr h1
theorem hxs2 (r : Nat) : hxs 2 r = [hexDig (r / 16 % 16), hexDig (r % 16)] := rfl
theorem hxs4 (r : Nat) : hxs 4 r = [hexDig (r / 16 / 16 / 16 % 16), hexDig (r / 16 / 16 % 16), hexDig (r / 16 % 16), hexDig (r % 16)] := rfl

/-- What writeQuoted does to a builder. -/
def Wrote (B b : Nat) (bs : List UInt8) (r : Nat) (w : World) (e : Ending) (w' : World) : Prop :=
  e = .returned (.tuple #[]) ∧ Lib.IsBuilderF 63 5 B b (Lib.byteCells (bs ++ qr r)) w' ∧ Below B w w' ∧ Lib.OthersKept 5 (some b) w w'

end Go.Proofs.YtgillafjccgkdaaDoor
