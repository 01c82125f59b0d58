/-
  A walk in memory; hasEnded.
-/
import Derived.Test.YtbdpecpmdglalaaGreatStFind
import Derived.Test.YtbdpecpmdglalaaGreatPrNil
import Derived.Laws.EntriesVeiled
namespace Go.Proofs.YtbdpecpmdglalaaGreat
open Go.RowKit Go.WideShapes

/-- The function that a walk keeps. -/
def fdF (back : Bool) : FuncId := if back = true then 26 else 29
def srF (d : Nat) (back : Bool) (size told : Int) (b : Nat) : Nat → Value
  | 0 => .pointer (some ⟨d, 0, none⟩)
  | 1 => .bool false
  | 2 => .int .i64 size
  | 3 => .int .i64 told
  | _ => .func (.func (fdF back)) #[] #[.pointer (some ⟨b, 0, none⟩)]
/-- A walk that has broken, or ended. -/
def soF (br : Bool) : Nat → Value
  | 0 => .pointer none
  | 1 => .bool br
  | 2 => .int .i64 0
  | 3 => .int .i64 0
  | _ => .nilFunc
structure Sr (w : World) (s d : Nat) (back : Bool) (size told : Int) (b : Nat) : Prop where
  hd : Blk w s 5 (srF d back size told b)
  bx : w.cell? ⟨b, 0, none⟩ = some (.pointer (some ⟨d, 0, none⟩))
  ne : s ≠ b
theorem Sr.same {w w' : World} {s d : Nat} {back : Bool} {size told : Int} {b : Nat} (x : Sr w s d back size told b) (h1 : w'.heap[s]? = w.heap[s]?) (h2 : w'.heap[b]? = w.heap[b]?) : Sr w' s d back size told b :=
  ⟨x.hd.same h1, (World.cell?_of_block (a := ⟨b, 0, none⟩) h2).trans x.bx, x.ne⟩
theorem Sr.lt {w : World} {s d : Nat} {back : Bool} {size told : Int} {b : Nat} (x : Sr w s d back size told b) : s < w.heap.size ∧ b < w.heap.size := ⟨x.hd.lt (by omega), lt_of_cell x.bx⟩
theorem Sr.below {w w' : World} {s d : Nat} {back : Bool} {size told : Int} {b : Nat} (x : Sr w s d back size told b) (hb : Below w.heap.size w w') : Sr w' s d back size told b := x.same (hb.block _ x.lt.1) (hb.block _ x.lt.2)
theorem eqSr (s : Nat) (w : World) : (binOp .eql 43 (.pointer (some ⟨s, 0, none⟩)) (.pointer none)).run Tryz.prog w = .ok (.bool false) w := by kernel_rfl
theorem eqSn (w : World) : (binOp .eql 43 (.pointer none) (.pointer none)).run Tryz.prog w = .ok (.bool true) w := by kernel_rfl
theorem srEnded_no {w : World} {s d : Nat} (k0 : w.cell? ⟨s, 0, none⟩ = some (.pointer (some ⟨d, 0, none⟩))) :
    Calls Tryz.prog 33 #[.pointer (some ⟨s, 0, none⟩)] w fun e w' => e = .returned (.bool false) ∧ w' = w := by
  have h1 := eqSr s
  have h2 := eqD d
  go_enter Tryz.func33, Tryz.ntmps33
  go_wp2
  go_ret
  exact ⟨rfl, rfl⟩
theorem srEnded_over {w : World} {s : Nat} {br : Bool} (k0 : w.cell? ⟨s, 0, none⟩ = some (.pointer none)) (k1 : w.cell? ⟨s, 1, none⟩ = some (.bool br)) :
    Calls Tryz.prog 33 #[.pointer (some ⟨s, 0, none⟩)] w fun e w' => e = .returned (.bool (!br)) ∧ w' = w := by
  have h1 := eqSr s
  have h2 := eqDn
  go_enter Tryz.func33, Tryz.ntmps33
  go_wp2
  go_ret
  exact ⟨rfl, rfl⟩
theorem srEnded_nil (w : World) :
    Calls Tryz.prog 33 #[.pointer none] w fun e w' => e = .returned (.bool true) ∧ w' = w := by
  have h1 := eqSn
  go_enter Tryz.func33, Tryz.ntmps33
  go_wp2
  go_ret
  exact ⟨rfl, rfl⟩
/-- A walk that has ended tells that again; so does none. -/
theorem next_nil_of {w : World} {sv : Value} (C0 : ∀ V, Below w.heap.size w V → Calls Tryz.prog 33 #[sv] V fun e w' => e = .returned (.bool true) ∧ w' = V) :
    Calls Tryz.prog 15 #[sv] w fun e w' => e = .returned (.tuple #[eV En.zero, .int .i64 10]) ∧ Below w.heap.size w w' := by
  obtain ⟨w1, hw1⟩ : ∃ y, w.alloc (.cells #[.bool false, .int .i64 0, .int .i64 0, .int .i64 0, .int .i64 0] 53) = y := ⟨_, rfl⟩
  obtain ⟨hX1, hB1, hs1⟩ := en_new w hw1
  have C1 := C0 w1 hB1
  have a0 := hX1.c 0 (by omega)
  have a1 := hX1.c 1 (by omega)
  have a2 := hX1.c 2 (by omega)
  have a3 := hX1.c 3 (by omega)
  have a4 := hX1.c 4 (by omega)
  have z0 := hX1.z 0
  have z1 := hX1.z 1
  have z2 := hX1.z 2
  have z3 := hX1.z 3
  have z4 := hX1.z 4
  have HR := Lib.hid (put5_blk hX1 (.bool false) (.int .i64 0) (.int .i64 0) (.int .i64 0) (.int .i64 0))
  have HBB := Lib.hid (hB1.trans (put5_below (B := w.heap.size) (w := w1) w.heap.size (Nat.le_refl _) (.bool false) (.int .i64 0) (.int .i64 0) (.int .i64 0) (.int .i64 0)))
  unfold put5 at HR HBB
  have HW := Lib.hid hw1
  clear hw1 hX1 hB1 C0
  go_enter Tryz.func15, Tryz.ntmps15
  go_upto_region 1 with fail
  rw [HW.out]
  go_wp2_with fail
  refine C1.mono ?_
  rintro e w2 ⟨rfl, rfl⟩
  clear C1
  go_wp2_with fail
  generalize World.setCell (World.setCell (World.setCell (World.setCell (World.setCell w2 _ _) _ _) _ _) _ _) _ _ = w5 at *
  have o0 : w5.cell? ⟨w.heap.size, 0, none⟩ = some (.bool false) := HR.out.c 0 (by omega)
  have o1 : w5.cell? ⟨w.heap.size, 1, none⟩ = some (.int .i64 0) := HR.out.c 1 (by omega)
  have o2 : w5.cell? ⟨w.heap.size, 2, none⟩ = some (.int .i64 0) := HR.out.c 2 (by omega)
  have o3 : w5.cell? ⟨w.heap.size, 3, none⟩ = some (.int .i64 0) := HR.out.c 3 (by omega)
  have o4 : w5.cell? ⟨w.heap.size, 4, none⟩ = some (.int .i64 0) := HR.out.c 4 (by omega)
  refine bodyPost_ret (v := .tuple #[.agg #[.bool false, .int .i64 0, .int .i64 0, .int .i64 0, .int .i64 0], .int .i64 10]) ?_ rfl ⟨rfl, HBB.out⟩
  simp [results, Tryz.results15, go_sem, o0, o1, o2, o3, o4]
theorem next_nil (w : World) : Calls Tryz.prog 15 #[.pointer none] w fun e w' => e = .returned (.tuple #[eV En.zero, .int .i64 10]) ∧ Below w.heap.size w w' := next_nil_of fun V _ => srEnded_nil V
theorem next_over {w : World} {s : Nat} (hS : Blk w s 5 (soF false)) : Calls Tryz.prog 15 #[.pointer (some ⟨s, 0, none⟩)] w fun e w' => e = .returned (.tuple #[eV En.zero, .int .i64 10]) ∧ Below w.heap.size w w' :=
  next_nil_of fun V hV => by
    have hx := hS.of hV (by omega)
    exact srEnded_over (br := false) (hx.c 0 (by omega)) (hx.c 1 (by omega))
end Go.Proofs.YtbdpecpmdglalaaGreat
