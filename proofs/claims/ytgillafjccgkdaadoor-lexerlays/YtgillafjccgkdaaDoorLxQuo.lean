/-
  Texts in quotes are read.
-/
import Derived.Test.YtgillafjccgkdaaDoorLxSign
import Derived.Test.YtgillafjccgkdaaDoorLeUnq
import Derived.Deep.RegionWith
namespace Go.Proofs.YtgillafjccgkdaaDoor
open Go.RowKit Go.WideShapes
namespace Lx

/-- What stands there, if a quoted text does. -/
def qt (r : List UInt8) (o : Nat) : Except Nat (Nat × List UInt8 × Nat × Nat) :=
  match unq r with
  | none => .error 104
  | some p => .ok (4, p.1, p.2, o)
set_option maxRecDepth 100000 in
set_option maxHeartbeats 4000000 in
theorem quoted_any {B : Nat} {w : World} {g : Nat} {src : ByteArray} {s : St} (hX : RdX B w g src s) (hsz : src.size ≤ 65536) (hle : s.at_ ≤ src.size) (hts : s.ts.length ≤ 9000000) (hE : Env w) :
    Calls Tryd.prog 24 #[.pointer (some ⟨g, 0, none⟩)] w fun e w' => EnR B w g src s.at_ (aft s (qt (src.data.toList.drop s.at_) s.opn)) e w' := by
  have C := fun w1 (h1 : Below w.heap.size w w1) => unquote_any (src.extract s.at_ src.size) w1 (by rw [ByteArray.size_extract]; omega) (hE.below h1)
  rw [extract_drop] at C
  have hul := unq_le (src.data.toList.drop s.at_)
  unfold qt
  have HX := Lib.hid hX
  obtain ⟨bv, tv, h⟩ := hX
  have HBw : Hid (B ≤ w.heap.size) := by have := h.lo; have := h.lt; show B ≤ _; omega
  have c0 := h.c0
  have c1 := h.c1
  have HH := Lib.hid h
  have i0 : (0 : Int) ≤ (s.at_ : Int) := by omega
  have i1 : (s.at_ : Int) ≤ (src.size : Int) := by omega
  clear h
  cases hu : unq (src.data.toList.drop s.at_) with
  | none =>
    rw [hu] at C
    unfold unqT at C
    show Calls Tryd.prog _ _ w fun e w' => e = offE 104 s.at_ ∧ Below B w w'
    clear hul hu
    go_enter Tryd.func24, Tryd.ntmps24
    go_wp2_with fail
    go_region_with (go_at_call 34; refine (C _ (by first | exact (Below.refl _ w).drew | exact Below.refl _ w)).mono ?_; rintro e w1 ⟨rfl, hb1⟩)
    all_goals
      go_wp2_with fail
      refine (offend_any (HX.out.below ((Below.refl _ w).drew.trans hb1)) 104).mono ?_
      rintro e w2 ⟨rfl, rfl⟩
      exact ⟨rfl, rfl, ((Below.refl _ w).drew.trans hb1).mono HBw.out⟩
  | some p =>
    have hp := hul p hu
    rw [List.length_drop, size_list] at hp
    rw [hu] at C
    unfold unqT at C
    show Calls Tryd.prog _ _ w fun e w' => e = .returned (.tuple #[]) ∧ RdX B w' g src _ ∧ Below B w w'
    clear hul hu
    obtain ⟨x, n⟩ := p
    simp only at C hp ⊢
    have HP := Lib.hid hp
    clear hp
    go_enter Tryd.func24, Tryd.ntmps24
    go_wp2_with fail
    go_region_with (go_at_call 34; refine (C _ (by first | exact (Below.refl _ w).drew | exact Below.refl _ w)).mono ?_; rintro e w1 ⟨rfl, hb1⟩)
    all_goals
      go_wp2_with fail
      refine (put_any (HX.out.below ((Below.refl _ w).drew.trans hb1)) 4 x n ⟨x.toArray⟩ rfl (by omega) (by have := HP.out; omega) (by omega)).mono ?_
      rintro e w2 ⟨rfl, h2, hb2⟩
      go_wp2_with fail
      go_end0
      exact ⟨rfl, h2, (((Below.refl _ w).drew.trans hb1).mono HBw.out).trans hb2⟩
end Lx
end Go.Proofs.YtgillafjccgkdaaDoor
