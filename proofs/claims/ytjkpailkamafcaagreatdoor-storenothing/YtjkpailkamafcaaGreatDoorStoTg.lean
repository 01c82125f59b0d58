/-
  awake: what a Store tells of a str and a tuple.
-/
import Derived.Test.YtjkpailkamafcaaGreatDoorStoQu3
import Derived.Test.YtjkpailkamafcaaGreatDoorStoGt
import Derived.Test.YtjkpailkamafcaaGreatDoorStoAd
import Derived.Test.YtjkpailkamafcaaGreatDoorStoAw1
namespace Go.Proofs.YtjkpailkamafcaaGreatDoor
open Go.RowKit Go.WideShapes

namespace Sto
set_option maxRecDepth 100000 in
theorem small1 (w : World) : Calls Tryz.prog 116 #[.int .i64 1] w fun e w' => e = .returned (.string ⟨#[49]⟩) ∧ w' = w := by
  go_enter Tryz.func116, Tryz.ntmps116
  go_wp2
  go_ret
  exact ⟨rfl, rfl⟩
theorem format1 (w : World) : Calls Tryz.prog 86 #[.int .i64 1, .int .i64 10] w fun e w' => e = .returned (.string ⟨#[49]⟩) ∧ w' = w := by
  have C := small1 w
  go_enter Tryz.func86, Tryz.ntmps86
  go_wp2_with fail
  refine C.mono ?_
  rintro e w' ⟨rfl, rfl⟩
  clear C
  go_wp2_with fail
  go_ret
  exact ⟨rfl, rfl⟩
theorem itoaI (w : World) : Calls Tryz.prog 51 #[.int .i64 1] w fun e w' => e = .returned (.string ⟨#[49]⟩) ∧ w' = w := by
  have C := format1 w
  go_enter Tryz.func51, Tryz.ntmps51
  go_wp2_with fail
  refine C.mono ?_
  rintro e w' ⟨rfl, rfl⟩
  clear C
  go_wp2_with fail
  go_ret
  exact ⟨rfl, rfl⟩
theorem itoa1 (w : World) : Calls Tryz.prog 28 #[.int .i64 1] w fun e w' => e = .returned (.string ⟨#[49]⟩) ∧ w' = w := by
  have C := itoaI w
  go_enter Tryz.func28, Tryz.ntmps28
  go_wp2_with fail
  refine C.mono ?_
  rintro e w' ⟨rfl, rfl⟩
  clear C
  go_wp2_with fail
  go_ret
  exact ⟨rfl, rfl⟩
/-- A Store of a str in slot 0 and a tuple in slot 1. -/
structure Two (w : World) (g q t m : Nat) (rv : Value) (p h : Int) (pm : Option Addr) : Prop where
  st : St w g [⟨true, some (84, ⟨q, 0, none⟩)⟩, ⟨true, some (89, ⟨t, 0, none⟩)⟩] rv (some m) 1 p h pm
  qq : w.cell? ⟨q, 0, none⟩ = some (.string ⟨#[97]⟩)
  tt : ∃ a' c', w.cell? ⟨t, 0, none⟩ = some (.slice a' 2 c')
  mm : w.heap[m]? = some oneMap
theorem Two.of {w w' : World} {g q t m : Nat} {rv : Value} {p h : Int} {pm : Option Addr} (H : Two w g q t m rv p h pm) (hb : Below w.heap.size w w') : Two w' g q t m rv p h pm := by
  obtain ⟨a', c', ht⟩ := H.tt
  exact ⟨H.st.of hb, (hb.cell (p := ⟨q, 0, none⟩) (lt_of_cell H.qq)).trans H.qq, ⟨a', c', (hb.cell (p := ⟨t, 0, none⟩) (lt_of_cell ht)).trans ht⟩, (hb.block m (Array.getElem?_eq_some_iff.1 H.mm).1).trans H.mm⟩
theorem eqS (g : Nat) (w : World) : (binOp .eql 26 (.pointer (some ⟨g, 0, none⟩)) (.pointer none)).run Tryz.prog w = .ok (.bool false) w := by kernel_rfl
theorem nnS (a : Option Addr) (w : World) : (binOp .eql 82 (.iface 84 (.pointer a)) .nilIface).run Tryz.prog w = .ok (.bool false) w := by kernel_rfl
theorem nnT (a : Option Addr) (w : World) : (binOp .eql 82 (.iface 89 (.pointer a)) .nilIface).run Tryz.prog w = .ok (.bool false) w := by kernel_rfl
set_option maxRecDepth 100000 in
theorem number1 {w : World} {g q t m : Nat} {rv : Value} {p h : Int} {pm : Option Addr} (H : Two w g q t m rv p h pm) : Calls Tryz.prog 9 #[.pointer (some ⟨g, 0, none⟩), .int .i64 1] w fun e w' => e = .returned (.int .i64 1) ∧ w' = w := by
  have e0 := eqS g
  have g2 : w.cell? ⟨g, 2, none⟩ = some (.map (some m)) := H.st.b.c 2 (by omega)
  have L := num_look H.mm
  clear H
  go_enter Tryz.func9, Tryz.ntmps9
  go_wp2_with fail
  go_ret
  exact ⟨rfl, rfl⟩
set_option maxRecDepth 100000 in
theorem len1 {w : World} {g q t m : Nat} {rv : Value} {p h : Int} {pm : Option Addr} (H : Two w g q t m rv p h pm) : Calls Tryz.prog 7 #[.pointer (some ⟨g, 0, none⟩), .int .i64 1] w fun e w' => e = .returned (.tuple #[.int .i64 2, .int .i64 0]) ∧ w' = w := by
  have e0 := eqS g
  have C : Calls Tryz.prog 21 #[.pointer (some ⟨g, 0, none⟩), .int .i64 1] w fun e w' => e = .returned (.iface 89 (.pointer (some ⟨t, 0, none⟩))) ∧ w' = w := get_yes H.st (k := 1) (by simp) rfl
  obtain ⟨a', c', t0⟩ := H.tt
  have a_Str := aTuple_Str (some ⟨t, 0, none⟩)
  have a_Tuple := aTuple_Tuple (some ⟨t, 0, none⟩)
  clear H
  go_enter Tryz.func7, Tryz.ntmps7
  go_wp2_with fail
  refine C.mono ?_
  rintro e w' ⟨rfl, rfl⟩
  clear C
  go_wp2_with fail
  go_ret2
  exact ⟨rfl, rfl⟩
set_option maxRecDepth 100000 in
theorem truth0 {w : World} {g q t m : Nat} {rv : Value} {p h : Int} {pm : Option Addr} (H : Two w g q t m rv p h pm) : Calls Tryz.prog 11 #[.pointer (some ⟨g, 0, none⟩), .int .i64 0] w fun e w' => e = .returned (.bool true) ∧ w' = w := by
  have C : Calls Tryz.prog 21 #[.pointer (some ⟨g, 0, none⟩), .int .i64 0] w fun e w' => e = .returned (.iface 84 (.pointer (some ⟨q, 0, none⟩))) ∧ w' = w := get_yes H.st (k := 0) (by simp) rfl
  have q0 := H.qq
  have n0 := nnS (some ⟨q, 0, none⟩)
  have a_None := aStr_None (some ⟨q, 0, none⟩)
  have a_Bool := aStr_Bool (some ⟨q, 0, none⟩)
  have a_Int := aStr_Int (some ⟨q, 0, none⟩)
  have a_Str := aStr_Str (some ⟨q, 0, none⟩)
  clear H
  go_enter Tryz.func11, Tryz.ntmps11
  go_wp2_with fail
  refine C.mono ?_
  rintro e w' ⟨rfl, rfl⟩
  clear C
  go_wp2_with fail
  go_ret
  exact ⟨rfl, rfl⟩
set_option maxRecDepth 100000 in
theorem tag0 {w : World} {g q t m : Nat} {rv : Value} {p h : Int} {pm : Option Addr} (H : Two w g q t m rv p h pm) : Calls Tryz.prog 10 #[.pointer (some ⟨g, 0, none⟩), .int .i64 0] w fun e w' => e = .returned (.string ⟨#[39, 97, 39]⟩) ∧ Below w.heap.size w w' := by
  have C : Calls Tryz.prog 21 #[.pointer (some ⟨g, 0, none⟩), .int .i64 0] w fun e w' => e = .returned (.iface 84 (.pointer (some ⟨q, 0, none⟩))) ∧ w' = w := get_yes H.st (k := 0) (by simp) rfl
  have C2 := quoteA w
  have q0 := H.qq
  have n0 := nnS (some ⟨q, 0, none⟩)
  have a_None := aStr_None (some ⟨q, 0, none⟩)
  have a_Bool := aStr_Bool (some ⟨q, 0, none⟩)
  have a_Int := aStr_Int (some ⟨q, 0, none⟩)
  have a_Str := aStr_Str (some ⟨q, 0, none⟩)
  clear H
  go_enter Tryz.func10, Tryz.ntmps10
  go_wp2_with fail
  refine C.mono ?_
  rintro e w' ⟨rfl, rfl⟩
  clear C
  go_wp2_with fail
  refine C2.mono ?_
  rintro e w2 ⟨rfl, hb2⟩
  clear C2
  have HB := Lib.hid hb2
  clear hb2
  go_wp2_with fail
  go_ret
  exact ⟨rfl, HB.out⟩
set_option maxRecDepth 100000 in
theorem tag1 {w : World} {g q t m : Nat} {rv : Value} {p h : Int} {pm : Option Addr} (H : Two w g q t m rv p h pm) : Calls Tryz.prog 10 #[.pointer (some ⟨g, 0, none⟩), .int .i64 1] w fun e w' => e = .returned (.string ⟨#[35, 49]⟩) ∧ Below w.heap.size w w' := by
  have C : Calls Tryz.prog 21 #[.pointer (some ⟨g, 0, none⟩), .int .i64 1] w fun e w' => e = .returned (.iface 89 (.pointer (some ⟨t, 0, none⟩))) ∧ w' = w := get_yes H.st (k := 1) (by simp) rfl
  have C2 := number1 H
  have C3 := itoa1 w
  have n0 := nnT (some ⟨t, 0, none⟩)
  have a_None := aTuple_None (some ⟨t, 0, none⟩)
  have a_Bool := aTuple_Bool (some ⟨t, 0, none⟩)
  have a_Int := aTuple_Int (some ⟨t, 0, none⟩)
  have a_Str := aTuple_Str (some ⟨t, 0, none⟩)
  have a_Native := aTuple_Native (some ⟨t, 0, none⟩)
  clear H
  go_enter Tryz.func10, Tryz.ntmps10
  go_wp2_with fail
  refine C.mono ?_
  rintro e w' ⟨rfl, rfl⟩
  clear C
  go_wp2_with fail
  refine C2.mono ?_
  rintro e w' ⟨rfl, rfl⟩
  clear C2
  go_wp2_with fail
  refine C3.mono ?_
  rintro e w' ⟨rfl, rfl⟩
  clear C3
  go_wp2_with fail
  go_ret
  exact ⟨rfl, Below.refl _ _⟩
end Sto
end Go.Proofs.YtjkpailkamafcaaGreatDoor
