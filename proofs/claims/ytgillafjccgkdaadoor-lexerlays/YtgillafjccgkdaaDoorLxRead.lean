/-
  Names, numbers, signs.
-/
import Derived.Test.YtgillafjccgkdaaDoorLxSet
import Derived.Test.YtgillafjccgkdaaDoorLxWord
namespace Go.Proofs.YtgillafjccgkdaaDoor
open Go.RowKit Go.WideShapes
namespace Lx

/-- A part of a source. -/
def cutB (src : ByteArray) (a k : Nat) : ByteArray := ⟨((src.data.toList.drop a).take k).toArray⟩
theorem extract_cut (src : ByteArray) (a k : Nat) : src.extract a (a + k) = cutB src a k := by
  unfold cutB
  have h : (src.extract a (a + k)).data.toList = (src.data.toList.drop a).take k := by
    rw [ByteArray.data_extract, Array.toList_extract]
    simp
  rw [← h]
theorem prt_step {l : List UInt8} {a : Nat} (h : a < l.length) : prt (l.drop a) = if isP (l.getD a 0) then prt (l.drop (a + 1)) + 1 else 0 := by rw [drop_cons h, prt]
set_option maxRecDepth 100000 in
set_option maxHeartbeats 1000000 in
theorem parts_any {B : Nat} {w : World} {g : Nat} {src : ByteArray} {s : St} {bv tv : Value} (h : Rd B w g src s bv tv) (hsz : src.size ≤ 65536) (hle : s.at_ ≤ src.size) :
    Calls Tryd.prog 32 #[.pointer (some ⟨g, 0, none⟩)] w fun e w' => e = .returned (.string (cutB src s.at_ (prt (src.data.toList.drop s.at_)))) ∧ Below w.heap.size w w' := by
  have c0 := h.c0
  have c1 := h.c1
  clear h
  generalize s.at_ = a0 at *
  go_enter Tryd.func32, Tryd.ntmps32
  go_wp2_with fail
  go_loopg [3] (src.size - a0) (fun gk v3 wr => ∃ a, a + gk = src.size ∧ a0 ≤ a ∧ v3 = .int .i64 (a : Int) ∧ a + prt (src.data.toList.drop a) = a0 + prt (src.data.toList.drop a0) ∧ wr = w)
  case atStart => exact ⟨a0, by omega, Nat.le_refl _, rfl, rfl, rfl⟩
  case round =>
    obtain ⟨a, hg, ha, rfl, hp, rfl⟩ := hrel
    have HP := Lib.hid hp
    clear hp
    have fin : ∀ (e : prt (src.data.toList.drop a) = 0), cutB src a0 (prt (src.data.toList.drop a0)) = src.extract a0 a := fun e => by
      have := HP.out
      rw [e] at this
      rw [← extract_cut, ← this, Nat.add_zero]
    have HF := Lib.hid fin
    clear fin
    have i0 : (0 : Int) ≤ (a0 : Int) := by omega
    have i1 : (a0 : Int) ≤ (a : Int) := by omega
    have i2 : (a : Int) ≤ (src.size : Int) := by omega
    have i3 : (0 : Int) ≤ (a : Int) := by omega
    by_cases hlt : a < src.size
    · have t1 : (a : Int) < (src.size : Int) := by omega
      have hl : a < src.data.toList.length := by rw [size_list]; exact hlt
      have eg : src.data.toList.getD a 0 = src[a]'hlt := by
        rw [List.getD, List.getElem?_eq_getElem hl]
        rfl
      have eb : wrap64 ((src[a]'hlt).toNat : Int) = ((src[a]'hlt).toNat : Int) := by have := (src[a]'hlt).toNat_lt; unfold wrap64; omega
      have eb2 : IntKind.i64.wrap ((src[a]'hlt).toNat : Int) = ((src[a]'hlt).toNat : Int) := by have := (src[a]'hlt).toNat_lt; exact i64_small (by omega) (by omega)
      have C := isPart_any (src[a]'hlt) wr
      have hs := prt_step hl
      rw [eg] at hs
      by_cases hip : isP (src[a]'hlt) = true
      · rw [hip] at C hs
        have HSt := Lib.hid hs
        have e1 : IntKind.i64.wrap ((a : Int) + 1) = ((a + 1 : Nat) : Int) := by rw [i64_small (by omega) (by omega)]; omega
        clear hs eg hl hip
        go_wp2_with (go_at_call 21; simp only [eb] at *; refine C.mono ?_; rintro e w' ⟨rfl, rfl⟩)
        go_roundg (gk - 1)
        case measure => omega
        case rel =>
          refine ⟨a + 1, by omega, by omega, rfl, ?_, rfl⟩
          rw [← HP.out, HSt.out]
          simp
          omega
      · have hip : isP (src[a]'hlt) = false := by simpa using hip
        rw [hip] at C hs
        have e0 := HF.out (by rw [hs]; rfl)
        have HE := Lib.hid e0
        clear hs eg hl hip e0
        go_wp2_with (go_at_call 21; simp only [eb] at *; refine C.mono ?_; rintro e w' ⟨rfl, rfl⟩)
        go_quiet (fail)
        go_wp2
        go_ret
        rw [HE.out]
        exact ⟨rfl, below_drewN (Below.refl _ _) _⟩
    · obtain rfl : a = src.size := by omega
      have t1 : decide (((src.size : Nat) : Int) < (src.size : Int)) = false := by simp
      have e0 := HF.out (by rw [List.drop_eq_nil_of_le (by rw [size_list]; exact Nat.le_refl _)]; rfl)
      have HE := Lib.hid e0
      clear e0
      go_wp2_with fail
      go_quiet (fail)
      go_wp2
      go_ret
      rw [HE.out]
      exact ⟨rfl, below_drewN (Below.refl _ _) _⟩
end Lx
end Go.Proofs.YtgillafjccgkdaaDoor
