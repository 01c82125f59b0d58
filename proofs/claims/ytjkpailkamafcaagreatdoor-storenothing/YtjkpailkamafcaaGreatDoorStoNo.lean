/-
  StoreNothing: the law's walk.
-/
import Derived.Test.YtjkpailkamafcaaGreatDoorStoAwk
import Derived.Test.YtjkpailkamafcaaGreatDoorStoOpen
namespace Go.Proofs.YtjkpailkamafcaaGreatDoor
open Go.RowKit Go.WideShapes

namespace Sto
set_option maxRecDepth 100000 in
theorem number_low {w : World} {g : Nat} {ss : List So} {rv : Value} {n p h : Int} {pm : Option Addr} (H : St w g ss rv none n p h pm) (v : Int) : Calls Tryz.prog 9 #[.pointer (some ⟨g, 0, none⟩), .int .i64 v] w fun e w' => e = .returned (.int .i64 0) ∧ w' = w := by
  have e0 := eqS g
  have g2 : w.cell? ⟨g, 2, none⟩ = some (.map none) := H.b.c 2 (by omega)
  have L := num_none v w
  clear H
  go_enter Tryz.func9, Tryz.ntmps9
  go_wp2_with fail
  go_ret
  exact ⟨rfl, rfl⟩
set_option maxRecDepth 100000 in
set_option maxHeartbeats 3200000 in
theorem nothing_walk (a : Option Addr) (n c : Nat) (G : Nat → Tm) (v : Int) (ra : Option Addr) (rn rc : Nat) (W : World) (hT : Ts W a n c G) (hv : -9223372036854775808 ≤ v ∧ v ≤ 9223372036854775807) :
    Calls Tryz.prog 3 #[.slice a n c, .int .i64 v, .slice ra rn rc] W fun e w' => e = .returned (.bool true) ∧ Below W.heap.size W w' := by
  have CL := large_any hT
  have CA := fun w => awake19_any w
  have hx1 : IntKind.i64.wrap (-1 - v) = -1 - v := i64_small (by omega) (by omega)
  clear hT
  go_enter Tryz.func3, Tryz.ntmps3
  go_wp2_with fail
  refine CL.mono ?_
  rintro e w1 ⟨lb, rfl, hb1⟩
  clear CL
  have HB1 := Lib.hid hb1
  clear hb1
  cases lb
  case true =>
    go_wp2_with fail
    refine (CA _).mono ?_
    rintro e w2 ⟨rfl, hb2⟩
    have HB2 := Lib.hid (HB1.out.trans (hb2.mono HB1.out.size))
    clear CA hb2
    go_wp2_with fail
    go_ret
    exact ⟨rfl, HB2.out⟩
  case false =>
  by_cases hr : (120 : Int) < (rn : Int)
  · go_wp2_with fail
    refine (CA _).mono ?_
    rintro e w2 ⟨rfl, hb2⟩
    have HB2 := Lib.hid (HB1.out.trans (hb2.mono HB1.out.size))
    clear CA hb2
    go_wp2_with fail
    go_ret
    exact ⟨rfl, HB2.out⟩
  go_wp2_with fail
  refine (build_nil _ a n c).mono ?_
  rintro e w' ⟨rfl, rfl⟩
  go_wp2_with fail
  refine (len_nil _ v).mono ?_
  rintro e w' ⟨rfl, rfl⟩
  go_wp2_with fail
  refine (kind_nil _ v).mono ?_
  rintro e w' ⟨rfl, rfl⟩
  go_wp2_with fail
  refine (number_nil _ v).mono ?_
  rintro e w' ⟨rfl, rfl⟩
  go_wp2_with fail
  refine (tag_nil _ v).mono ?_
  rintro e w' ⟨rfl, rfl⟩
  go_wp2_with fail
  refine (truth_nil _ v).mono ?_
  rintro e w' ⟨rfl, rfl⟩
  go_wp2_with fail
  refine (alike_nil _ v v).mono ?_
  rintro e w' ⟨rfl, rfl⟩
  go_wp2_with fail
  refine (is_nil _ v v).mono ?_
  rintro e w' ⟨rfl, rfl⟩
  go_wp2_with fail
  refine (parts_nil _ v).mono ?_
  rintro e w' ⟨rfl, rfl⟩
  go_wp2_with fail
  refine (live_nil _).mono ?_
  rintro e w' ⟨rfl, rfl⟩
  go_wp2_with fail
  refine (sweep_nil _ ra rn rc).mono ?_
  rintro e w' ⟨rfl, rfl⟩
  go_wp2_with fail
  refine (rules_any _ 1000 5).mono ?_
  rintro e w2 ⟨rfl, hb2⟩
  have HB2 := Lib.hid (HB1.out.trans (hb2.mono HB1.out.size))
  clear hb2
  go_wp2_with fail
  refine (new_any _ 1000 5 _ (by omega) (by omega)).mono ?_
  rintro e w4 ⟨rfl, hw4⟩
  obtain ⟨HS, hb4⟩ := new_st hw4
  have hb24 : Below w2.heap.size w2 w4 := ((Below.refl _ w2).alloc (Nat.le_refl _) _).trans (hb4.mono (by simp))
  have HB4 := Lib.hid (HB2.out.trans (hb24.mono HB2.out.size))
  clear hw4 hb4 hb24
  generalize (World.alloc w2 _).heap.size + 1 = g at *
  have e0 := eqS g
  by_cases hv0 : v < 0
  · have HX : v < 0 := hv0
    go_wp2_with fail
    refine (len_low _ g HX).mono ?_
    rintro e w' ⟨rfl, rfl⟩
    go_wp2_with fail
    refine (kind_low _ g HX).mono ?_
    rintro e w' ⟨rfl, rfl⟩
    go_wp2_with fail
    refine (number_low HS _).mono ?_
    rintro e w' ⟨rfl, rfl⟩
    go_wp2_with fail
    refine (tag_low _ g HX).mono ?_
    rintro e w' ⟨rfl, rfl⟩
    go_wp2_with fail
    refine (truth_low _ g HX).mono ?_
    rintro e w' ⟨rfl, rfl⟩
    go_wp2_with fail
    refine (alike_low _ g _ HX).mono ?_
    rintro e w' ⟨rfl, rfl⟩
    go_wp2_with fail
    refine (is_low _ g _ HX).mono ?_
    rintro e w' ⟨rfl, rfl⟩
    go_wp2_with fail
    refine (parts_low _ g HX).mono ?_
    rintro e w' ⟨rfl, rfl⟩
    go_wp2_with fail
    refine (CA _).mono ?_
    rintro e w5 ⟨rfl, hb5⟩
    have HB5 := Lib.hid (HB4.out.trans (hb5.mono HB4.out.size))
    clear CA hb5
    go_wp2_with fail
    go_ret
    exact ⟨rfl, HB5.out⟩
  · have HX : -1 - v < 0 := by omega
    go_wp2_with fail
    refine (len_low _ g HX).mono ?_
    rintro e w' ⟨rfl, rfl⟩
    go_wp2_with fail
    refine (kind_low _ g HX).mono ?_
    rintro e w' ⟨rfl, rfl⟩
    go_wp2_with fail
    refine (number_low HS _).mono ?_
    rintro e w' ⟨rfl, rfl⟩
    go_wp2_with fail
    refine (tag_low _ g HX).mono ?_
    rintro e w' ⟨rfl, rfl⟩
    go_wp2_with fail
    refine (truth_low _ g HX).mono ?_
    rintro e w' ⟨rfl, rfl⟩
    go_wp2_with fail
    refine (alike_low _ g _ HX).mono ?_
    rintro e w' ⟨rfl, rfl⟩
    go_wp2_with fail
    refine (is_low _ g _ HX).mono ?_
    rintro e w' ⟨rfl, rfl⟩
    go_wp2_with fail
    refine (parts_low _ g HX).mono ?_
    rintro e w' ⟨rfl, rfl⟩
    go_wp2_with fail
    refine (CA _).mono ?_
    rintro e w5 ⟨rfl, hb5⟩
    have HB5 := Lib.hid (HB4.out.trans (hb5.mono HB4.out.size))
    clear CA hb5
    go_wp2_with fail
    go_ret
    exact ⟨rfl, HB5.out⟩
end Sto
end Go.Proofs.YtjkpailkamafcaaGreatDoor
