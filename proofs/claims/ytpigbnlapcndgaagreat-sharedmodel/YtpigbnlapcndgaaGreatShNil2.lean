/-
  A nil family, a zero family.
-/
import Derived.Test.YtpigbnlapcndgaaGreatShNil
namespace Go.Proofs.YtpigbnlapcndgaaGreat
open Go.RowKit Go.WideShapes
attribute [local go_sem] Oper.semAt_some

theorem eqFa0 (w : World) : (binOp .eql 25 (.pointer none) (.pointer none)).run Tryz.prog w = .ok (.bool true) w := by kernel_rfl
theorem eqT70 (w : World) : (binOp .eql 54 (.pointer none) (.pointer none)).run Tryz.prog w = .ok (.bool true) w := by kernel_rfl
theorem keys_nil (w : World) : Calls Tryz.prog 23 #[.pointer none] w fun e w' => e = .returned (.pointer none) ∧ w' = w := by
  have h1 := eqFa0
  go_enter Tryz.func23, Tryz.ntmps23
  go_wp2
  go_ret
  exact ⟨rfl, rfl⟩
theorem make_nil (w : World) : Calls Tryz.prog 7 #[.pointer none] w fun e w' => e = .returned (.pointer none) ∧ w' = w := by
  have h1 := eqFa0
  go_enter Tryz.func7, Tryz.ntmps7
  go_wp2
  go_ret
  exact ⟨rfl, rfl⟩
/-- A zero family's cells, with its key table or none yet. -/
def zF0 (g : Option Addr) : Nat → Value
  | 0 => .pointer none
  | 1 => .pointer g
  | 2 => .int .i64 0
  | 3 => .int .i64 0
  | 4 => .map none
  | _ => .slice none 0 0
set_option maxRecDepth 100000 in
theorem keys_zero {w : World} {f : Nat} (hf : Blk w f 6 (zF0 none)) :
    Calls Tryz.prog 23 #[.pointer (some ⟨f, 0, none⟩)] w fun e w' => ∃ g gi r h, e = .returned (.pointer (some ⟨g, 0, none⟩)) ∧ Blk w' f 6 (zF0 (some ⟨g, 0, none⟩)) ∧ Dt w' g gi r h (.slice none 0 0) Tb.new (.pointer none) ∧ (∀ k, dX g gi r h (.slice none 0 0) k → w.heap.size ≤ k) ∧ Ex (fun k => k = f) w w' := by
  have h1 := eqFa f
  have h2 := eqT70
  have k1 : w.cell? ⟨f, 1, none⟩ = some (.pointer none) := hf.c 1 (by omega)
  have lf := hf.lt (by omega)
  have CN := new7_any (w := w) (pm := none) (M := fun a b w => no4 a b 0 0 w) (a := 0) (b := 0) (m4_nil.mt 0 0) trivial (by omega)
  have HF := Lib.hid hf
  clear hf
  go_enter Tryz.func23, Tryz.ntmps23
  go_wp2_with fail
  refine CN.mono ?_
  rintro e w1 ⟨g, gi, r, h, rfl, hg, hgi, hr, hh, hD, _, hx1⟩
  clear CN
  have hB1 : Below w.heap.size w w1 := hx1.below (fun k hk => (noMet hk).elim) (Nat.le_refl _)
  have hf1 := HF.out.of hB1 (by omega)
  have y1 : w1.cell? ⟨f, 1, none⟩ = some (.pointer none) := hf1.c 1 (by omega)
  have z1 : w1.frozen? ⟨f, 1, none⟩ = false := hf1.z 1
  obtain ⟨w2, hw2⟩ : ∃ y, w1.setCell ⟨f, 1, none⟩ (.pointer (some ⟨g, 0, none⟩)) = y := ⟨_, rfl⟩
  have hf2 : Blk w2 f 6 (zF0 (some ⟨g, 0, none⟩)) := by
    rw [← hw2]
    refine (hf1.put 1 _).congr fun j hj => ?_
    have : j = 0 ∨ j = 1 ∨ j = 2 ∨ j = 3 ∨ j = 4 ∨ j = 5 := by omega
    rcases this with rfl | rfl | rfl | rfl | rfl | rfl <;> rfl
  have x2 : w2.cell? ⟨f, 1, none⟩ = some (.pointer (some ⟨g, 0, none⟩)) := hf2.c 1 (by omega)
  have o2 : ∀ k, k ≠ f → w2.heap[k]? = w1.heap[k]? := fun k hk => by rw [← hw2]; exact Below.heap_setCell _ _ _ _ hk
  have hge : ∀ k, dX g gi r h (.slice none 0 0) k → w.heap.size ≤ k := by
    rintro k (y | y | y | y | y)
    · omega
    · omega
    · omega
    · omega
    · cases y
  have HD : Hid (Dt w2 g gi r h (.slice none 0 0) Tb.new (.pointer none)) := hD.same fun k hk => o2 k (by have := hge k hk; omega)
  have HX : Hid (Ex (fun k => k = f) w w2) := by
    rw [← hw2]
    exact (ex_of hB1).trans ((Ex.refl (fun k => k = f) w1).setCell (p := ⟨f, 1, none⟩) (fun _ => rfl) _)
  have HW2 := Lib.hid hw2
  have HF2 := Lib.hid hf2
  clear hD hx1 hB1 hf1 hw2 hf2 o2 k1
  go_upto_region 5 with fail
  rw [HW2.out]
  go_wp2
  go_ret
  exact ⟨g, gi, r, h, rfl, HF2.out, HD.out, hge, HX.out⟩
theorem numberOf_nil {w : World} {f : Nat} (k4 : w.cell? ⟨f, 4, none⟩ = some (.map none)) {s : ByteArray} (hs : s.size ≤ 3000) :
    Calls Tryz.prog 26 #[.pointer (some ⟨f, 0, none⟩), .string s] w fun e w' => e = .returned (.int .i64 (-1)) ∧ w' = w := by
  have hL : (Instr.lookup 56 (.map none) (.string s) true).run Tryz.prog w = .ok (.tuple #[.int .i64 0, .bool false]) w := Maps.look_nil (w := w) true Tryz.keyS Tryz.underlying56 (Tryz.zeroI w) (keyS_mk hs)
  go_enter Tryz.func26, Tryz.ntmps26
  go_wp2
  go_ret
  exact ⟨rfl, rfl⟩
end Go.Proofs.YtpigbnlapcndgaaGreat
