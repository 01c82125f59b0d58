/-
  A nil family, a zero family.
-/
import Derived.Test.YtjbgbijpihpkmaaGreatShNil
namespace Go.Proofs.YtjbgbijpihpkmaaGreat
open Go.RowKit Go.WideShapes
attribute [local go_sem] Oper.semAt_some

theorem eqFa0 (w : World) : (binOp .eql 25 (.pointer none) (.pointer none)).run Tryz.prog w = .ok (.bool true) w := by kernel_rfl
theorem eqT70 (w : World) : (binOp .eql 81 (.pointer none) (.pointer none)).run Tryz.prog w = .ok (.bool true) w := by kernel_rfl
theorem keys_nil (w : World) : Calls Tryz.prog 33 #[.pointer none] w fun e w' => e = .returned (.pointer none) ∧ w' = w := by
  have h1 := eqFa0
  go_enter Tryz.func33, Tryz.ntmps33
  go_wp2
  go_ret
  exact ⟨rfl, rfl⟩
theorem make_nil (w : World) : Calls Tryz.prog 10 #[.pointer none] w fun e w' => e = .returned (.pointer none) ∧ w' = w := by
  have h1 := eqFa0
  go_enter Tryz.func10, Tryz.ntmps10
  go_wp2
  go_ret
  exact ⟨rfl, rfl⟩
theorem fsight_nil (w : World) : Calls Tryz.prog 41 #[.pointer none] w fun e w' => e = .returned (siV 0 0 none 0 0 none 0 0 0 0 0) ∧ Below w.heap.size w w' := by
  obtain ⟨w1, hw1⟩ : ∃ y, w.alloc (.cells #[.int .i64 0, .int .i64 0, .slice none 0 0, .slice none 0 0, .int .i64 0, .int .i64 0, .int .i64 0] 120) = y := ⟨_, rfl⟩
  have hB1 : Below w.heap.size w w1 := by rw [← hw1]; exact (Below.refl _ w).alloc (Nat.le_refl _) _
  have hR1 : Blk w1 w.heap.size 7 (fun j => #[Value.int .i64 0, .int .i64 0, .slice none 0 0, .slice none 0 0, .int .i64 0, .int .i64 0, .int .i64 0].getD j .nilFunc) := by rw [← hw1]; exact Blk.new w _ _
  have CK := keys_nil w1
  have CS := sight_nil w1
  have HW := Lib.hid hw1
  clear hw1
  go_enter Tryz.func41, Tryz.ntmps41
  go_upto_region 1 with fail
  rw [HW.out]
  go_wp2_with fail
  refine CK.mono ?_
  rintro e w2 ⟨rfl, rfl⟩
  go_wp2_with fail
  refine CS.mono ?_
  rintro e w3 ⟨rfl, hB3⟩
  clear CK CS
  have hR3 := hR1.of hB3 (by omega)
  have a0 : w3.cell? ⟨w.heap.size, 0, none⟩ = some (.int .i64 0) := hR3.c 0 (by omega)
  have a1 : w3.cell? ⟨w.heap.size, 1, none⟩ = some (.int .i64 0) := hR3.c 1 (by omega)
  have a2 : w3.cell? ⟨w.heap.size, 2, none⟩ = some (.slice none 0 0) := hR3.c 2 (by omega)
  have a3 : w3.cell? ⟨w.heap.size, 3, none⟩ = some (.slice none 0 0) := hR3.c 3 (by omega)
  have a4 : w3.cell? ⟨w.heap.size, 4, none⟩ = some (.int .i64 0) := hR3.c 4 (by omega)
  have a5 : w3.cell? ⟨w.heap.size, 5, none⟩ = some (.int .i64 0) := hR3.c 5 (by omega)
  have a6 : w3.cell? ⟨w.heap.size, 6, none⟩ = some (.int .i64 0) := hR3.c 6 (by omega)
  have z0 : ∀ j, w3.frozen? ⟨w.heap.size, j, none⟩ = false := fun j => hR3.z j
  obtain ⟨w4, hw4⟩ : ∃ y, ((((((w3.setCell ⟨w.heap.size, 0, none⟩ (.int .i64 0)).setCell ⟨w.heap.size, 1, none⟩ (.int .i64 0)).setCell ⟨w.heap.size, 2, none⟩ (.slice none 0 0)).setCell ⟨w.heap.size, 3, none⟩ (.slice none 0 0)).setCell ⟨w.heap.size, 4, none⟩ (.int .i64 0)).setCell ⟨w.heap.size, 5, none⟩ (.int .i64 0)).setCell ⟨w.heap.size, 6, none⟩ (.int .i64 0) = y := ⟨_, rfl⟩
  have hR4 := (((((((hR3.put 0 (.int .i64 0)).put 1 (.int .i64 0)).put 2 (.slice none 0 0)).put 3 (.slice none 0 0)).put 4 (.int .i64 0)).put 5 (.int .i64 0)).put 6 (.int .i64 0))
  rw [hw4] at hR4
  have b0 : w4.cell? ⟨w.heap.size, 0, none⟩ = some (.int .i64 0) := hR4.c 0 (by omega)
  have b1 : w4.cell? ⟨w.heap.size, 1, none⟩ = some (.int .i64 0) := hR4.c 1 (by omega)
  have b2 : w4.cell? ⟨w.heap.size, 2, none⟩ = some (.slice none 0 0) := hR4.c 2 (by omega)
  have b3 : w4.cell? ⟨w.heap.size, 3, none⟩ = some (.slice none 0 0) := hR4.c 3 (by omega)
  have b4 : w4.cell? ⟨w.heap.size, 4, none⟩ = some (.int .i64 0) := hR4.c 4 (by omega)
  have b5 : w4.cell? ⟨w.heap.size, 5, none⟩ = some (.int .i64 0) := hR4.c 5 (by omega)
  have b6 : w4.cell? ⟨w.heap.size, 6, none⟩ = some (.int .i64 0) := hR4.c 6 (by omega)
  have HB : Hid (Below w.heap.size w w4) := by
    have h3 := hB1.trans (hB3.mono hB1.size)
    have hx : Ex (fun k => k = w.heap.size) w3 w4 := by
      rw [← hw4]
      exact (((((((Ex.refl (fun k => k = w.heap.size) w3).setCell (p := ⟨w.heap.size, 0, none⟩) (fun _ => rfl) _).setCell (p := ⟨w.heap.size, 1, none⟩) (fun _ => rfl) _).setCell (p := ⟨w.heap.size, 2, none⟩) (fun _ => rfl) _).setCell (p := ⟨w.heap.size, 3, none⟩) (fun _ => rfl) _).setCell (p := ⟨w.heap.size, 4, none⟩) (fun _ => rfl) _).setCell (p := ⟨w.heap.size, 5, none⟩) (fun _ => rfl) _).setCell (p := ⟨w.heap.size, 6, none⟩) (fun _ => rfl) _
    exact h3.trans (hx.below (fun k hk => by omega) h3.size)
  have HW4 := Lib.hid hw4
  clear hR3 hR1 hB3 hB1 hR4 hw4
  unfold siV
  go_wp2_with fail
  rw [HW4.out]
  refine bodyPost_ret (v := siV 0 0 none 0 0 none 0 0 0 0 0) (by simp [results, Tryz.results41, go_sem, siV, b0, b1, b2, b3, b4, b5, b6]) rfl ?_
  exact ⟨rfl, HB.out⟩
/-- A zero family's cells, with its key table or none yet. -/
def zF0 (g : Option Addr) : Nat → Value
  | 0 => .pointer none
  | 1 => .pointer g
  | 2 => .int .i64 0
  | 3 => .int .i64 0
  | 4 => .map none
  | _ => .slice none 0 0
set_option maxRecDepth 100000 in
theorem keys_zero {w : World} {f : Nat} (hf : Blk w f 6 (zF0 none)) :
    Calls Tryz.prog 33 #[.pointer (some ⟨f, 0, none⟩)] w fun e w' => ∃ g gi r h, e = .returned (.pointer (some ⟨g, 0, none⟩)) ∧ Blk w' f 6 (zF0 (some ⟨g, 0, none⟩)) ∧ Dt w' g gi r h (.slice none 0 0) Tb.new (.pointer none) ∧ (∀ k, dX g gi r h (.slice none 0 0) k → w.heap.size ≤ k) ∧ Ex (fun k => k = f) w w' := by
  have h1 := eqFa f
  have h2 := eqT70
  have k1 : w.cell? ⟨f, 1, none⟩ = some (.pointer none) := hf.c 1 (by omega)
  have lf := hf.lt (by omega)
  have CN := new7_any (w := w) (pm := none) (M := fun a b w => no4 a b 0 0 w) (a := 0) (b := 0) (m4_nil.mt 0 0) trivial (by omega)
  have HF := Lib.hid hf
  clear hf
  go_enter Tryz.func33, Tryz.ntmps33
  go_wp2_with fail
  refine CN.mono ?_
  rintro e w1 ⟨g, gi, r, h, rfl, hg, hgi, hr, hh, hD, _, hx1⟩
  clear CN
  have hB1 : Below w.heap.size w w1 := hx1.below (fun k hk => (noMet hk).elim) (Nat.le_refl _)
  have hf1 := HF.out.of hB1 (by omega)
  have y1 : w1.cell? ⟨f, 1, none⟩ = some (.pointer none) := hf1.c 1 (by omega)
  have z1 : w1.frozen? ⟨f, 1, none⟩ = false := hf1.z 1
  obtain ⟨w2, hw2⟩ : ∃ y, w1.setCell ⟨f, 1, none⟩ (.pointer (some ⟨g, 0, none⟩)) = y := ⟨_, rfl⟩
  have hf2 : Blk w2 f 6 (zF0 (some ⟨g, 0, none⟩)) := by
    rw [← hw2]
    refine (hf1.put 1 _).congr fun j hj => ?_
    have : j = 0 ∨ j = 1 ∨ j = 2 ∨ j = 3 ∨ j = 4 ∨ j = 5 := by omega
    rcases this with rfl | rfl | rfl | rfl | rfl | rfl <;> rfl
  have x2 : w2.cell? ⟨f, 1, none⟩ = some (.pointer (some ⟨g, 0, none⟩)) := hf2.c 1 (by omega)
  have o2 : ∀ k, k ≠ f → w2.heap[k]? = w1.heap[k]? := fun k hk => by rw [← hw2]; exact Below.heap_setCell _ _ _ _ hk
  have hge : ∀ k, dX g gi r h (.slice none 0 0) k → w.heap.size ≤ k := by
    rintro k (y | y | y | y | y)
    · omega
    · omega
    · omega
    · omega
    · cases y
  have HD : Hid (Dt w2 g gi r h (.slice none 0 0) Tb.new (.pointer none)) := hD.same fun k hk => o2 k (by have := hge k hk; omega)
  have HX : Hid (Ex (fun k => k = f) w w2) := by
    rw [← hw2]
    exact (ex_of hB1).trans ((Ex.refl (fun k => k = f) w1).setCell (p := ⟨f, 1, none⟩) (fun _ => rfl) _)
  have HW2 := Lib.hid hw2
  have HF2 := Lib.hid hf2
  clear hD hx1 hB1 hf1 hw2 hf2 o2 k1
  go_upto_region 5 with fail
  rw [HW2.out]
  go_wp2
  go_ret
  exact ⟨g, gi, r, h, rfl, HF2.out, HD.out, hge, HX.out⟩
theorem numberOf_nil {w : World} {f : Nat} (k4 : w.cell? ⟨f, 4, none⟩ = some (.map none)) {s : ByteArray} (hs : s.size ≤ 3000) :
    Calls Tryz.prog 44 #[.pointer (some ⟨f, 0, none⟩), .string s] w fun e w' => e = .returned (.int .i64 (-1)) ∧ w' = w := by
  have hL : (Instr.lookup 83 (.map none) (.string s) true).run Tryz.prog w = .ok (.tuple #[.int .i64 0, .bool false]) w := Maps.look_nil (w := w) true Tryz.keyS Tryz.underlying83 (Tryz.zeroI w) (keyS_mk hs)
  go_enter Tryz.func44, Tryz.ntmps44
  go_wp2
  go_ret
  exact ⟨rfl, rfl⟩
end Go.Proofs.YtjbgbijpihpkmaaGreat
