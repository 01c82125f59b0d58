/-
  A Store's values: what a str, a tuple is asserted to be; what is added, with its number.
-/
import Derived.Test.YtjkpailkamafcaaGreatDoorStoSt
import Derived.Test.YtjkpailkamafcaaGreatDoorStoAw3
import Derived.Deep.Cut
namespace Go.Proofs.YtjkpailkamafcaaGreatDoor
open Go.RowKit Go.WideShapes

namespace Sto
theorem aStr_None (a : Option Addr) (w : World) : (Instr.typeAssert (.iface 84 (.pointer a)) 82 109 true).run Tryz.prog w = .ok (.tuple #[.pointer none, .bool false]) w := by kernel_rfl
theorem aStr_Bool (a : Option Addr) (w : World) : (Instr.typeAssert (.iface 84 (.pointer a)) 82 110 true).run Tryz.prog w = .ok (.tuple #[.pointer none, .bool false]) w := by kernel_rfl
theorem aStr_Int (a : Option Addr) (w : World) : (Instr.typeAssert (.iface 84 (.pointer a)) 82 113 true).run Tryz.prog w = .ok (.tuple #[.pointer none, .bool false]) w := by kernel_rfl
theorem aStr_Str (a : Option Addr) (w : World) : (Instr.typeAssert (.iface 84 (.pointer a)) 82 84 true).run Tryz.prog w = .ok (.tuple #[.pointer a, .bool true]) w := by kernel_rfl
theorem aStr_Tuple (a : Option Addr) (w : World) : (Instr.typeAssert (.iface 84 (.pointer a)) 82 89 true).run Tryz.prog w = .ok (.tuple #[.pointer none, .bool false]) w := by kernel_rfl
theorem aStr_List (a : Option Addr) (w : World) : (Instr.typeAssert (.iface 84 (.pointer a)) 82 94 true).run Tryz.prog w = .ok (.tuple #[.pointer none, .bool false]) w := by kernel_rfl
theorem aStr_Dict (a : Option Addr) (w : World) : (Instr.typeAssert (.iface 84 (.pointer a)) 82 96 true).run Tryz.prog w = .ok (.tuple #[.pointer none, .bool false]) w := by kernel_rfl
theorem aStr_Set (a : Option Addr) (w : World) : (Instr.typeAssert (.iface 84 (.pointer a)) 82 102 true).run Tryz.prog w = .ok (.tuple #[.pointer none, .bool false]) w := by kernel_rfl
theorem aStr_Func (a : Option Addr) (w : World) : (Instr.typeAssert (.iface 84 (.pointer a)) 82 145 true).run Tryz.prog w = .ok (.tuple #[.pointer none, .bool false]) w := by kernel_rfl
theorem aStr_Native (a : Option Addr) (w : World) : (Instr.typeAssert (.iface 84 (.pointer a)) 82 118 true).run Tryz.prog w = .ok (.tuple #[.pointer none, .bool false]) w := by kernel_rfl
theorem aStr_Bound (a : Option Addr) (w : World) : (Instr.typeAssert (.iface 84 (.pointer a)) 82 146 true).run Tryz.prog w = .ok (.tuple #[.pointer none, .bool false]) w := by kernel_rfl
theorem aStr_Class (a : Option Addr) (w : World) : (Instr.typeAssert (.iface 84 (.pointer a)) 82 137 true).run Tryz.prog w = .ok (.tuple #[.pointer none, .bool false]) w := by kernel_rfl
theorem aStr_Instance (a : Option Addr) (w : World) : (Instr.typeAssert (.iface 84 (.pointer a)) 82 141 true).run Tryz.prog w = .ok (.tuple #[.pointer none, .bool false]) w := by kernel_rfl
theorem aStr_View (a : Option Addr) (w : World) : (Instr.typeAssert (.iface 84 (.pointer a)) 82 105 true).run Tryz.prog w = .ok (.tuple #[.pointer none, .bool false]) w := by kernel_rfl
theorem aStr_Iter (a : Option Addr) (w : World) : (Instr.typeAssert (.iface 84 (.pointer a)) 82 147 true).run Tryz.prog w = .ok (.tuple #[.pointer none, .bool false]) w := by kernel_rfl
theorem aStr_Cell (a : Option Addr) (w : World) : (Instr.typeAssert (.iface 84 (.pointer a)) 82 148 true).run Tryz.prog w = .ok (.tuple #[.pointer none, .bool false]) w := by kernel_rfl
theorem aTuple_None (a : Option Addr) (w : World) : (Instr.typeAssert (.iface 89 (.pointer a)) 82 109 true).run Tryz.prog w = .ok (.tuple #[.pointer none, .bool false]) w := by kernel_rfl
theorem aTuple_Bool (a : Option Addr) (w : World) : (Instr.typeAssert (.iface 89 (.pointer a)) 82 110 true).run Tryz.prog w = .ok (.tuple #[.pointer none, .bool false]) w := by kernel_rfl
theorem aTuple_Int (a : Option Addr) (w : World) : (Instr.typeAssert (.iface 89 (.pointer a)) 82 113 true).run Tryz.prog w = .ok (.tuple #[.pointer none, .bool false]) w := by kernel_rfl
theorem aTuple_Str (a : Option Addr) (w : World) : (Instr.typeAssert (.iface 89 (.pointer a)) 82 84 true).run Tryz.prog w = .ok (.tuple #[.pointer none, .bool false]) w := by kernel_rfl
theorem aTuple_Tuple (a : Option Addr) (w : World) : (Instr.typeAssert (.iface 89 (.pointer a)) 82 89 true).run Tryz.prog w = .ok (.tuple #[.pointer a, .bool true]) w := by kernel_rfl
theorem aTuple_List (a : Option Addr) (w : World) : (Instr.typeAssert (.iface 89 (.pointer a)) 82 94 true).run Tryz.prog w = .ok (.tuple #[.pointer none, .bool false]) w := by kernel_rfl
theorem aTuple_Dict (a : Option Addr) (w : World) : (Instr.typeAssert (.iface 89 (.pointer a)) 82 96 true).run Tryz.prog w = .ok (.tuple #[.pointer none, .bool false]) w := by kernel_rfl
theorem aTuple_Set (a : Option Addr) (w : World) : (Instr.typeAssert (.iface 89 (.pointer a)) 82 102 true).run Tryz.prog w = .ok (.tuple #[.pointer none, .bool false]) w := by kernel_rfl
theorem aTuple_Func (a : Option Addr) (w : World) : (Instr.typeAssert (.iface 89 (.pointer a)) 82 145 true).run Tryz.prog w = .ok (.tuple #[.pointer none, .bool false]) w := by kernel_rfl
theorem aTuple_Native (a : Option Addr) (w : World) : (Instr.typeAssert (.iface 89 (.pointer a)) 82 118 true).run Tryz.prog w = .ok (.tuple #[.pointer none, .bool false]) w := by kernel_rfl
theorem aTuple_Bound (a : Option Addr) (w : World) : (Instr.typeAssert (.iface 89 (.pointer a)) 82 146 true).run Tryz.prog w = .ok (.tuple #[.pointer none, .bool false]) w := by kernel_rfl
theorem aTuple_Class (a : Option Addr) (w : World) : (Instr.typeAssert (.iface 89 (.pointer a)) 82 137 true).run Tryz.prog w = .ok (.tuple #[.pointer none, .bool false]) w := by kernel_rfl
theorem aTuple_Instance (a : Option Addr) (w : World) : (Instr.typeAssert (.iface 89 (.pointer a)) 82 141 true).run Tryz.prog w = .ok (.tuple #[.pointer none, .bool false]) w := by kernel_rfl
theorem aTuple_View (a : Option Addr) (w : World) : (Instr.typeAssert (.iface 89 (.pointer a)) 82 105 true).run Tryz.prog w = .ok (.tuple #[.pointer none, .bool false]) w := by kernel_rfl
theorem aTuple_Iter (a : Option Addr) (w : World) : (Instr.typeAssert (.iface 89 (.pointer a)) 82 147 true).run Tryz.prog w = .ok (.tuple #[.pointer none, .bool false]) w := by kernel_rfl
theorem aTuple_Cell (a : Option Addr) (w : World) : (Instr.typeAssert (.iface 89 (.pointer a)) 82 148 true).run Tryz.prog w = .ok (.tuple #[.pointer none, .bool false]) w := by kernel_rfl
set_option maxRecDepth 100000 in
theorem plainStr (a : Option Addr) (w : World) : Calls Tryz.prog 132 #[.iface 84 (.pointer a)] w fun e w' => e = .returned (.bool true) ∧ w' = w := by
  have a_None := aStr_None a
  have a_Bool := aStr_Bool a
  have a_Int := aStr_Int a
  have a_Str := aStr_Str a
  have a_Native := aStr_Native a
  go_enter Tryz.func132, Tryz.ntmps132
  go_wp2
  go_ret
  exact ⟨rfl, rfl⟩
set_option maxRecDepth 100000 in
theorem plainTuple (a : Option Addr) (w : World) : Calls Tryz.prog 132 #[.iface 89 (.pointer a)] w fun e w' => e = .returned (.bool false) ∧ w' = w := by
  have a_None := aTuple_None a
  have a_Bool := aTuple_Bool a
  have a_Int := aTuple_Int a
  have a_Str := aTuple_Str a
  have a_Native := aTuple_Native a
  go_enter Tryz.func132, Tryz.ntmps132
  go_wp2
  go_ret
  exact ⟨rfl, rfl⟩
/-- The objects' numbers, where there is one object, in slot 1. -/
def oneMap : Obj := .map #[⟨.int .i64 1, .int .i64 1, 0⟩] 1
set_option maxRecDepth 1000000 in
theorem num_put {w : World} {M : Nat} (h : w.heap[M]? = some (.map #[] 0)) : (Instr.mapUpdate 75 (.map (some M)) (.int .i64 1) (.int .i64 1)).run Tryz.prog w = .ok () (Go.ChangeMaps.setBlock w M oneMap) := by
  have hc : (Instr.checkKey false 10000 3 (.int .i64 1)).run Tryz.prog w = .ok () w := by kernel_rfl
  have hf : (Instr.findKey 3 (.int .i64 1) []).run Tryz.prog w = .ok none w := rfl
  simp [oneMap, Instr.mapUpdate, run_underlying Tryz.underlying75, MapKept.run_getObj_map h, hc, hf, MapKept.run_setObj_map _ h, Result.andThen, Go.ChangeMaps.setBlock]
set_option maxRecDepth 1000000 in
theorem num_look {w : World} {M : Nat} (h : w.heap[M]? = some oneMap) : (Instr.lookup 75 (.map (some M)) (.int .i64 1) false).run Tryz.prog w = .ok (.int .i64 1) w := by
  have hc : (Instr.checkKey false 10000 3 (.int .i64 1)).run Tryz.prog w = .ok () w := by kernel_rfl
  have hf : (Instr.findKey 3 (.int .i64 1) [⟨.int .i64 1, .int .i64 1, 0⟩]).run Tryz.prog w = .ok (some (0, .int .i64 1)) w := by kernel_rfl
  unfold oneMap at h
  simp [Instr.lookup, run_underlying Tryz.underlying75, MapKept.run_getObj_map h, hc, hf, Result.andThen]
set_option maxRecDepth 1000000 in
theorem num_none (v : Int) (w : World) : (Instr.lookup 75 (.map none) (.int .i64 v) false).run Tryz.prog w = .ok (.int .i64 0) w := by kernel_rfl
theorem st_put {w : World} {g : Nat} {ss : List So} {rv : Value} {mo : Option Nat} {n p h : Int} {pm : Option Addr} (H : St w g ss rv mo n p h pm) (m : Int) : St (w.setCell ⟨g, 3, none⟩ (.int .i64 m)) g ss rv mo m p h pm := by
  refine ⟨(H.b.put 3 (.int .i64 m)).congr (fun j hj => ?_), H.row.same (fun k hk => Below.heap_setCell _ _ _ _ (fun e => H.nr (by rw [hk, e]))), H.nr, H.sm⟩
  have : j = 0 ∨ j = 1 ∨ j = 2 ∨ j = 3 ∨ j = 4 ∨ j = 5 ∨ j = 6 ∨ j = 7 := by omega
  rcases this with rfl | rfl | rfl | rfl | rfl | rfl | rfl | rfl <;> rfl
theorem st_map {w : World} {g : Nat} {ss : List So} {rv : Value} {mo : Option Nat} {n p h : Int} {pm : Option Addr} (H : St w g ss rv mo n p h pm) (m : Nat) : St (w.setCell ⟨g, 2, none⟩ (.map (some m))) g ss rv (some m) n p h pm := by
  refine ⟨(H.b.put 2 (.map (some m))).congr (fun j hj => ?_), H.row.same (fun k hk => Below.heap_setCell _ _ _ _ (fun e => H.nr (by rw [hk, e]))), H.nr, H.sm⟩
  have : j = 0 ∨ j = 1 ∨ j = 2 ∨ j = 3 ∨ j = 4 ∨ j = 5 ∨ j = 6 ∨ j = 7 := by omega
  rcases this with rfl | rfl | rfl | rfl | rfl | rfl | rfl | rfl <;> rfl
set_option maxRecDepth 100000 in
/-- The first object's number. -/
theorem keep_any {w : World} {g : Nat} {ss : List So} {rv : Value} {n p h : Int} {pm : Option Addr} (H : St w g ss rv none n p h pm) : Calls Tryz.prog 133 #[.pointer (some ⟨g, 0, none⟩), .int .i64 1, .int .i64 1] w fun e w' => e = .returned (.tuple #[]) ∧ St w' g ss rv (some w.heap.size) n p h pm ∧ w'.heap[w.heap.size]? = some oneMap ∧ Ex (fun k => k = g) w w' := by
  have c2 : w.cell? ⟨g, 2, none⟩ = some (.map none) := H.b.c 2 (by omega)
  have z2 := H.b.z 2
  have hlt := H.lt
  have hmm := @run_makeMap Tryz.prog
  obtain ⟨w1, hw1⟩ : ∃ V, w.alloc (.map #[] 0) = V := ⟨_, rfl⟩
  have hb1 : Below w.heap.size w w1 := by rw [← hw1]; exact (Below.refl _ w).alloc (Nat.le_refl _) _
  have hM1 : w1.heap[w.heap.size]? = some (.map #[] 0) := by rw [← hw1]; exact (show (w.heap.push _)[w.heap.size]? = _ from Array.getElem?_push_size)
  have h1 := H.of hb1
  have x2 : w1.cell? ⟨g, 2, none⟩ = some (.map none) := h1.b.c 2 (by omega)
  have y2 := h1.b.z 2
  obtain ⟨w2, hw2⟩ : ∃ V, w1.setCell ⟨g, 2, none⟩ (.map (some w.heap.size)) = V := ⟨_, rfl⟩
  have h2 : St w2 g ss rv (some w.heap.size) n p h pm := by rw [← hw2]; exact st_map h1 _
  have hM2 : w2.heap[w.heap.size]? = some (.map #[] 0) := by rw [← hw2, Below.heap_setCell _ _ _ _ (by show w.heap.size ≠ g; omega)]; exact hM1
  have v2 : w2.cell? ⟨g, 2, none⟩ = some (.map (some w.heap.size)) := h2.b.c 2 (by omega)
  have L2 := num_put hM2
  obtain ⟨w3, hw3⟩ : ∃ V, Go.ChangeMaps.setBlock w2 w.heap.size oneMap = V := ⟨_, rfl⟩
  have ho : ∀ q, q ≠ w.heap.size → w3.heap[q]? = w2.heap[q]? := fun q hq => by rw [← hw3]; simp [Go.ChangeMaps.setBlock, Ne.symm hq]
  have hs3 : w3.heap.size = w2.heap.size := by rw [← hw3]; simp [Go.ChangeMaps.setBlock]
  have hrv : ∀ k, rv.ownBlock = some k → k < w.heap.size := fun k hk => (World.ownsRow.lt H.row k hk).2
  have h3 : St w3 g ss rv (some w.heap.size) n p h pm := h2.same (fun k hk => ho k (by
    rcases hk with rfl | hk
    · omega
    · have := hrv k hk; omega))
  have hM3 : w3.heap[w.heap.size]? = some oneMap := by
    rw [← hw3]
    have := (Array.getElem?_eq_some_iff.1 hM2).1
    simp [Go.ChangeMaps.setBlock, this]
  have hx : Ex (fun k => k = g) w w3 := by
    refine ⟨by rw [← hw3, ← hw2, ← hw1]; rfl, by rw [← hw3, ← hw2, ← hw1]; rfl, by rw [← hw3, ← hw2, ← hw1]; rfl, by rw [hs3, ← hw2]; simp [World.setCell]; exact hb1.size, fun k hk hne => ?_⟩
    rw [ho k (by omega), ← hw2, Below.heap_setCell _ _ _ _ (by show k ≠ g; exact hne)]
    exact hb1.block k hk
  have H3 := Lib.hid h3
  have HM3 := Lib.hid hM3
  have HX := Lib.hid hx
  have HW1 := Lib.hid hw1
  have HW2 := Lib.hid hw2
  have HW3 := Lib.hid hw3
  rw [hw3] at L2
  rw [← hw2, ← hw1] at v2 L2
  rw [show (w.alloc (.map #[] 0)).setCell ⟨g, 2, none⟩ (.map (some w.heap.size)) = (w.setCell ⟨g, 2, none⟩ (.map (some w.heap.size))).alloc (.map #[] 0) from World.setCell_alloc_past _ _ _ _ hlt] at L2
  rw [← hw1] at x2 y2
  have hq : (binOp .eql 75 (.map none) (.map none)).run Tryz.prog w = .ok (.bool true) w := by kernel_rfl
  clear H hb1 hM1 h1 h2 hM2 ho hs3 hrv h3 hM3 hx hw1 hw2 hw3 HW1 HW2 HW3
  go_enter Tryz.func133, Tryz.ntmps133
  go_wp2_with fail
  go_end0
  exact ⟨rfl, H3.out, HM3.out, HX.out⟩
set_option maxRecDepth 100000 in
/-- A str that is added. -/
theorem addStr {w : World} {g : Nat} {ss : List So} {rv : Value} {mo : Option Nat} {n p h : Int} {pm : Option Addr} (H : St w g ss rv mo n p h pm) (hs : ss.length < 1000) (b : Addr) :
    Calls Tryz.prog 104 #[.pointer (some ⟨g, 0, none⟩), .iface 84 (.pointer (some b))] w fun e w' => e = .returned (.int .i64 (ss.length : Int)) ∧ ∃ rv', St w' g (ss ++ [⟨true, some (84, b)⟩]) rv' mo n p h pm ∧ Ex (Own g rv) w w' ∧ (rv'.ownBlock = rv.ownBlock ∨ ∃ k, rv'.ownBlock = some k ∧ w.heap.size ≤ k) := by
  have C1 := add_any H hs 84 b
  have C2 := fun w => plainStr (some b) w
  clear H
  go_enter Tryz.func104, Tryz.ntmps104
  go_wp2_with fail
  refine C1.mono ?_
  rintro e w1 ⟨rfl, rv1, h1, hx1, ha1⟩
  clear C1
  have H1 := Lib.hid h1
  have HX := Lib.hid hx1
  have HA := Lib.hid ha1
  clear h1 hx1 ha1
  go_wp2_with fail
  refine (C2 _).mono ?_
  rintro e w' ⟨rfl, rfl⟩
  clear C2
  go_wp2_with fail
  go_ret
  exact ⟨rfl, rv1, H1.out, HX.out, HA.out⟩
set_option maxRecDepth 100000 in
/-- The first object that is added, into slot 1. -/
theorem addTuple {w : World} {g : Nat} {s0 : So} {rv : Value} {p h : Int} {pm : Option Addr} (H : St w g [s0] rv none 0 p h pm) (b : Addr) :
    Calls Tryz.prog 104 #[.pointer (some ⟨g, 0, none⟩), .iface 89 (.pointer (some b))] w fun e w' => e = .returned (.int .i64 1) ∧ ∃ rv' m, St w' g [s0, ⟨true, some (89, b)⟩] rv' (some m) 1 p h pm ∧ Ex (Own g rv) w w' ∧ (rv'.ownBlock = rv.ownBlock ∨ ∃ k, rv'.ownBlock = some k ∧ w.heap.size ≤ k) ∧ w'.heap[m]? = some oneMap ∧ w.heap.size ≤ m := by
  have C1 := add_any H (by simp) 89 b
  have C2 := fun w => plainTuple (some b) w
  have hl := H.lt
  clear H
  simp only [List.length_singleton] at C1
  go_enter Tryz.func104, Tryz.ntmps104
  go_wp2_with fail
  refine C1.mono ?_
  rintro e w1 ⟨rfl, rv1, h1, hx1, ha1⟩
  clear C1
  have c3 : w1.cell? ⟨g, 3, none⟩ = some (.int .i64 0) := h1.b.c 3 (by omega)
  have z3 := h1.b.z 3
  have h2 := st_put h1 1
  have y3 : (w1.setCell ⟨g, 3, none⟩ (.int .i64 1)).cell? ⟨g, 3, none⟩ = some (.int .i64 1) := h2.b.c 3 (by omega)
  have C3 := keep_any h2
  have hs2 : (w1.setCell ⟨g, 3, none⟩ (.int .i64 1)).heap.size = w1.heap.size := by simp [World.setCell]
  have hx2 := hx1.setCell (p := ⟨g, 3, none⟩) (fun _ => Or.inl rfl) (.int .i64 1)
  have HX := Lib.hid hx2
  have HA := Lib.hid ha1
  have HS := Lib.hid (show w.heap.size ≤ w1.heap.size from hx1.size)
  have HS2 := Lib.hid hs2
  clear h1 hx1 ha1 h2 hx2 hs2
  go_wp2_with fail
  refine (C2 _).mono ?_
  rintro e w' ⟨rfl, rfl⟩
  clear C2
  go_wp2_with fail
  refine C3.mono ?_
  rintro e w3 ⟨rfl, h3, hm3, hx3⟩
  clear C3
  have H3 := Lib.hid h3
  have HM := Lib.hid hm3
  have HX3 := Lib.hid hx3
  clear h3 hm3 hx3
  go_wp2_with fail
  go_ret
  refine ⟨rfl, rv1, _, H3.out, HX.out.next HX3.out (fun k _ hk => Or.inl hk), HA.out, HM.out, by rw [HS2.out]; exact HS.out⟩
end Sto
end Go.Proofs.YtjkpailkamafcaaGreatDoor
