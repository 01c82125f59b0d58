/-
  Namespaces and families that are none.
  A nil family, a zero family.
  A zero family's namespace; names of none; the law's sight of none.
-/
import Derived.Test.YtmgachknfeamkaaGreatSaw
import Derived.Test.YtmgachknfeamkaaGreatDtNil
namespace Go.Proofs.YtmgachknfeamkaaGreat
open Go.RowKit Go.WideShapes

/-- It is none. -/
abbrev NoS (w : World) (pv : Option Addr) : Prop := Calls Tryz.prog 44 #[.pointer pv] w fun e w' => e = .returned (.bool true) ∧ w' = w
theorem get_not {w : World} {pv : Option Addr} (C : NoS w pv) (nm : ByteArray) : Calls Tryz.prog 17 #[.pointer pv, .string nm] w fun e w' => e = .returned (.tuple #[.int .i64 0, .bool false]) ∧ w' = w := by
  go_enter Tryz.func17, Tryz.ntmps17
  go_wp2_with fail
  refine C.mono ?_
  rintro e w1 ⟨rfl, rfl⟩
  go_wp2
  exact bodyPost_ret (v := .tuple #[.int .i64 0, .bool false]) (by simp [results, Tryz.results17, go_sem]) rfl ⟨rfl, rfl⟩
theorem set_not {w : World} {pv : Option Addr} (C : NoS w pv) (nm : ByteArray) (v : Int) : Calls Tryz.prog 18 #[.pointer pv, .string nm, .int .i64 v] w fun e w' => e = .returned (.int .i64 1) ∧ w' = w := by
  go_enter Tryz.func18, Tryz.ntmps18
  go_wp2_with fail
  refine C.mono ?_
  rintro e w1 ⟨rfl, rfl⟩
  go_wp2
  go_ret
  exact ⟨rfl, rfl⟩
theorem del_not {w : World} {pv : Option Addr} (C : NoS w pv) (nm : ByteArray) : Calls Tryz.prog 19 #[.pointer pv, .string nm] w fun e w' => e = .returned (.int .i64 1) ∧ w' = w := by
  go_enter Tryz.func19, Tryz.ntmps19
  go_wp2_with fail
  refine C.mono ?_
  rintro e w1 ⟨rfl, rfl⟩
  go_wp2
  go_ret
  exact ⟨rfl, rfl⟩
theorem len_not {w : World} {pv : Option Addr} (C : NoS w pv) : Calls Tryz.prog 20 #[.pointer pv] w fun e w' => e = .returned (.int .i64 0) ∧ w' = w := by
  go_enter Tryz.func20, Tryz.ntmps20
  go_wp2_with fail
  refine C.mono ?_
  rintro e w1 ⟨rfl, rfl⟩
  go_wp2
  go_ret
  exact ⟨rfl, rfl⟩
theorem pairs_not {w : World} {pv : Option Addr} (C : NoS w pv) : Calls Tryz.prog 21 #[.pointer pv] w fun e w' => e = .returned (.slice none 0 0) ∧ w' = w := by
  go_enter Tryz.func21, Tryz.ntmps21
  go_wp2_with fail
  refine C.mono ?_
  rintro e w1 ⟨rfl, rfl⟩
  go_wp2
  go_ret
  exact ⟨rfl, rfl⟩
theorem shared_not {w : World} {pv : Option Addr} (C : NoS w pv) : Calls Tryz.prog 23 #[.pointer pv] w fun e w' => e = .returned (.bool false) ∧ w' = w := by
  go_enter Tryz.func23, Tryz.ntmps23
  go_wp2_with fail
  refine C.mono ?_
  rintro e w1 ⟨rfl, rfl⟩
  go_wp2
  go_ret
  exact ⟨rfl, rfl⟩
theorem version_nil (w : World) : Calls Tryz.prog 22 #[.pointer none] w fun e w' => e = .returned (.int .i64 0) ∧ w' = w := by
  have h1 : ∀ w, (binOp .eql 53 (.pointer none) (.pointer none)).run Tryz.prog w = .ok (.bool true) w := fun w => by kernel_rfl
  go_enter Tryz.func22, Tryz.ntmps22
  go_wp2
  go_ret
  exact ⟨rfl, rfl⟩
theorem version_zero {w : World} {s : Nat} (x2 : w.cell? ⟨s, 2, none⟩ = some (.int .u64 0)) : Calls Tryz.prog 22 #[.pointer (some ⟨s, 0, none⟩)] w fun e w' => e = .returned (.int .i64 0) ∧ w' = w := by
  have h1 := eqSp s
  go_enter Tryz.func22, Tryz.ntmps22
  go_wp2
  go_ret
  exact ⟨rfl, rfl⟩
theorem ssight_not {w : World} {pv : Option Addr} (C : ∀ W, Below w.heap.size w W → NoS W pv) : Calls Tryz.prog 24 #[.pointer pv] w fun e w' => e = .returned (siV 0 0 none 0 0 none 0 0 0 0 0) ∧ Below w.heap.size w w' := by
  have HC : Hid (∀ o, NoS (w.alloc o) pv) := fun o => C _ ((Below.refl _ w).alloc (Nat.le_refl _) _)
  clear C
  go_enter Tryz.func24, Tryz.ntmps24
  go_wp2_with fail
  refine (HC.out _).mono ?_
  rintro e w2 ⟨rfl, rfl⟩
  clear HC
  go_wp2
  refine bodyPost_ret (v := siV 0 0 none 0 0 none 0 0 0 0 0) (by simp [results, Tryz.results24, go_sem, siV]) rfl ?_
  exact ⟨rfl, by first | exact (Below.refl _ w).alloc (Nat.le_refl _) _ | exact ⟨rfl, rfl, rfl, Nat.le_refl _, fun _ _ => rfl⟩⟩
end Go.Proofs.YtmgachknfeamkaaGreat
namespace Go.Proofs.YtmgachknfeamkaaGreat
open Go.RowKit Go.WideShapes
attribute [local go_sem] Oper.semAt_some

theorem eqFa0 (w : World) : (binOp .eql 52 (.pointer none) (.pointer none)).run Tryz.prog w = .ok (.bool true) w := by kernel_rfl
theorem eqT70 (w : World) : (binOp .eql 54 (.pointer none) (.pointer none)).run Tryz.prog w = .ok (.bool true) w := by kernel_rfl
theorem keys_nil (w : World) : Calls Tryz.prog 41 #[.pointer none] w fun e w' => e = .returned (.pointer none) ∧ w' = w := by
  have h1 := eqFa0
  go_enter Tryz.func41, Tryz.ntmps41
  go_wp2
  go_ret
  exact ⟨rfl, rfl⟩
theorem make_nil (w : World) : Calls Tryz.prog 13 #[.pointer none] w fun e w' => e = .returned (.pointer none) ∧ w' = w := by
  have h1 := eqFa0
  go_enter Tryz.func13, Tryz.ntmps13
  go_wp2
  go_ret
  exact ⟨rfl, rfl⟩
theorem fsight_nil (w : World) : Calls Tryz.prog 16 #[.pointer none] w fun e w' => e = .returned (siV 0 0 none 0 0 none 0 0 0 0 0) ∧ Below w.heap.size w w' := by
  obtain ⟨w1, hw1⟩ : ∃ y, w.alloc (.cells #[.int .i64 0, .int .i64 0, .slice none 0 0, .slice none 0 0, .int .i64 0, .int .i64 0, .int .i64 0] 71) = y := ⟨_, rfl⟩
  have hB1 : Below w.heap.size w w1 := by rw [← hw1]; exact (Below.refl _ w).alloc (Nat.le_refl _) _
  have hR1 : Blk w1 w.heap.size 7 (fun j => #[Value.int .i64 0, .int .i64 0, .slice none 0 0, .slice none 0 0, .int .i64 0, .int .i64 0, .int .i64 0].getD j .nilFunc) := by rw [← hw1]; exact Blk.new w _ _
  have CK := keys_nil w1
  have CS := sight_nil w1
  have HW := Lib.hid hw1
  clear hw1
  go_enter Tryz.func16, Tryz.ntmps16
  go_upto_region 1 with fail
  rw [HW.out]
  go_wp2_with fail
  refine CK.mono ?_
  rintro e w2 ⟨rfl, rfl⟩
  go_wp2_with fail
  refine CS.mono ?_
  rintro e w3 ⟨rfl, hB3⟩
  clear CK CS
  have hR3 := hR1.of hB3 (by omega)
  have a0 : w3.cell? ⟨w.heap.size, 0, none⟩ = some (.int .i64 0) := hR3.c 0 (by omega)
  have a1 : w3.cell? ⟨w.heap.size, 1, none⟩ = some (.int .i64 0) := hR3.c 1 (by omega)
  have a2 : w3.cell? ⟨w.heap.size, 2, none⟩ = some (.slice none 0 0) := hR3.c 2 (by omega)
  have a3 : w3.cell? ⟨w.heap.size, 3, none⟩ = some (.slice none 0 0) := hR3.c 3 (by omega)
  have a4 : w3.cell? ⟨w.heap.size, 4, none⟩ = some (.int .i64 0) := hR3.c 4 (by omega)
  have a5 : w3.cell? ⟨w.heap.size, 5, none⟩ = some (.int .i64 0) := hR3.c 5 (by omega)
  have a6 : w3.cell? ⟨w.heap.size, 6, none⟩ = some (.int .i64 0) := hR3.c 6 (by omega)
  have z0 : ∀ j, w3.frozen? ⟨w.heap.size, j, none⟩ = false := fun j => hR3.z j
  obtain ⟨w4, hw4⟩ : ∃ y, ((((((w3.setCell ⟨w.heap.size, 0, none⟩ (.int .i64 0)).setCell ⟨w.heap.size, 1, none⟩ (.int .i64 0)).setCell ⟨w.heap.size, 2, none⟩ (.slice none 0 0)).setCell ⟨w.heap.size, 3, none⟩ (.slice none 0 0)).setCell ⟨w.heap.size, 4, none⟩ (.int .i64 0)).setCell ⟨w.heap.size, 5, none⟩ (.int .i64 0)).setCell ⟨w.heap.size, 6, none⟩ (.int .i64 0) = y := ⟨_, rfl⟩
  have hR4 := (((((((hR3.put 0 (.int .i64 0)).put 1 (.int .i64 0)).put 2 (.slice none 0 0)).put 3 (.slice none 0 0)).put 4 (.int .i64 0)).put 5 (.int .i64 0)).put 6 (.int .i64 0))
  rw [hw4] at hR4
  have b0 : w4.cell? ⟨w.heap.size, 0, none⟩ = some (.int .i64 0) := hR4.c 0 (by omega)
  have b1 : w4.cell? ⟨w.heap.size, 1, none⟩ = some (.int .i64 0) := hR4.c 1 (by omega)
  have b2 : w4.cell? ⟨w.heap.size, 2, none⟩ = some (.slice none 0 0) := hR4.c 2 (by omega)
  have b3 : w4.cell? ⟨w.heap.size, 3, none⟩ = some (.slice none 0 0) := hR4.c 3 (by omega)
  have b4 : w4.cell? ⟨w.heap.size, 4, none⟩ = some (.int .i64 0) := hR4.c 4 (by omega)
  have b5 : w4.cell? ⟨w.heap.size, 5, none⟩ = some (.int .i64 0) := hR4.c 5 (by omega)
  have b6 : w4.cell? ⟨w.heap.size, 6, none⟩ = some (.int .i64 0) := hR4.c 6 (by omega)
  have HB : Hid (Below w.heap.size w w4) := by
    have h3 := hB1.trans (hB3.mono hB1.size)
    have hx : Ex (fun k => k = w.heap.size) w3 w4 := by
      rw [← hw4]
      exact (((((((Ex.refl (fun k => k = w.heap.size) w3).setCell (p := ⟨w.heap.size, 0, none⟩) (fun _ => rfl) _).setCell (p := ⟨w.heap.size, 1, none⟩) (fun _ => rfl) _).setCell (p := ⟨w.heap.size, 2, none⟩) (fun _ => rfl) _).setCell (p := ⟨w.heap.size, 3, none⟩) (fun _ => rfl) _).setCell (p := ⟨w.heap.size, 4, none⟩) (fun _ => rfl) _).setCell (p := ⟨w.heap.size, 5, none⟩) (fun _ => rfl) _).setCell (p := ⟨w.heap.size, 6, none⟩) (fun _ => rfl) _
    exact h3.trans (hx.below (fun k hk => by omega) h3.size)
  have HW4 := Lib.hid hw4
  clear hR3 hR1 hB3 hB1 hR4 hw4
  unfold siV
  go_wp2_with fail
  rw [HW4.out]
  refine bodyPost_ret (v := siV 0 0 none 0 0 none 0 0 0 0 0) (by simp [results, Tryz.results16, go_sem, siV, b0, b1, b2, b3, b4, b5, b6]) rfl ?_
  exact ⟨rfl, HB.out⟩
/-- A zero family's cells, with its key table or none yet. -/
def zF0 (g : Option Addr) : Nat → Value
  | 0 => .pointer none
  | 1 => .pointer g
  | 2 => .int .i64 0
  | 3 => .int .i64 0
  | 4 => .map none
  | _ => .slice none 0 0
set_option maxRecDepth 100000 in
theorem keys_zero {w : World} {f : Nat} (hf : Blk w f 6 (zF0 none)) :
    Calls Tryz.prog 41 #[.pointer (some ⟨f, 0, none⟩)] w fun e w' => ∃ g gi r h, e = .returned (.pointer (some ⟨g, 0, none⟩)) ∧ Blk w' f 6 (zF0 (some ⟨g, 0, none⟩)) ∧ Dt w' g gi r h (.slice none 0 0) Tb.new (.pointer none) ∧ (∀ k, dX g gi r h (.slice none 0 0) k → w.heap.size ≤ k) ∧ Ex (fun k => k = f) w w' := by
  have h1 := eqFa f
  have h2 := eqT70
  have k1 : w.cell? ⟨f, 1, none⟩ = some (.pointer none) := hf.c 1 (by omega)
  have lf := hf.lt (by omega)
  have CN := new7_any (w := w) (pm := none) (M := fun a b w => no4 a b 0 0 w) (a := 0) (b := 0) (m4_nil.mt 0 0) trivial (by omega)
  have HF := Lib.hid hf
  clear hf
  go_enter Tryz.func41, Tryz.ntmps41
  go_wp2_with fail
  refine CN.mono ?_
  rintro e w1 ⟨g, gi, r, h, rfl, hg, hgi, hr, hh, hD, _, hx1⟩
  clear CN
  have hB1 : Below w.heap.size w w1 := hx1.below (fun k hk => (noMet hk).elim) (Nat.le_refl _)
  have hf1 := HF.out.of hB1 (by omega)
  have y1 : w1.cell? ⟨f, 1, none⟩ = some (.pointer none) := hf1.c 1 (by omega)
  have z1 : w1.frozen? ⟨f, 1, none⟩ = false := hf1.z 1
  obtain ⟨w2, hw2⟩ : ∃ y, w1.setCell ⟨f, 1, none⟩ (.pointer (some ⟨g, 0, none⟩)) = y := ⟨_, rfl⟩
  have hf2 : Blk w2 f 6 (zF0 (some ⟨g, 0, none⟩)) := by
    rw [← hw2]
    refine (hf1.put 1 _).congr fun j hj => ?_
    have : j = 0 ∨ j = 1 ∨ j = 2 ∨ j = 3 ∨ j = 4 ∨ j = 5 := by omega
    rcases this with rfl | rfl | rfl | rfl | rfl | rfl <;> rfl
  have x2 : w2.cell? ⟨f, 1, none⟩ = some (.pointer (some ⟨g, 0, none⟩)) := hf2.c 1 (by omega)
  have o2 : ∀ k, k ≠ f → w2.heap[k]? = w1.heap[k]? := fun k hk => by rw [← hw2]; exact Below.heap_setCell _ _ _ _ hk
  have hge : ∀ k, dX g gi r h (.slice none 0 0) k → w.heap.size ≤ k := by
    rintro k (y | y | y | y | y)
    · omega
    · omega
    · omega
    · omega
    · cases y
  have HD : Hid (Dt w2 g gi r h (.slice none 0 0) Tb.new (.pointer none)) := hD.same fun k hk => o2 k (by have := hge k hk; omega)
  have HX : Hid (Ex (fun k => k = f) w w2) := by
    rw [← hw2]
    exact (ex_of hB1).trans ((Ex.refl (fun k => k = f) w1).setCell (p := ⟨f, 1, none⟩) (fun _ => rfl) _)
  have HW2 := Lib.hid hw2
  have HF2 := Lib.hid hf2
  clear hD hx1 hB1 hf1 hw2 hf2 o2 k1
  go_upto_region 5 with fail
  rw [HW2.out]
  go_wp2
  go_ret
  exact ⟨g, gi, r, h, rfl, HF2.out, HD.out, hge, HX.out⟩
theorem numberOf_nil {w : World} {f : Nat} (k4 : w.cell? ⟨f, 4, none⟩ = some (.map none)) {s : ByteArray} (hs : s.size ≤ 3000) :
    Calls Tryz.prog 78 #[.pointer (some ⟨f, 0, none⟩), .string s] w fun e w' => e = .returned (.int .i64 (-1)) ∧ w' = w := by
  have hL : (Instr.lookup 55 (.map none) (.string s) true).run Tryz.prog w = .ok (.tuple #[.int .i64 0, .bool false]) w := Maps.look_nil (w := w) true Tryz.keyS Tryz.underlying55 (Tryz.zeroI w) (keyS_mk hs)
  go_enter Tryz.func78, Tryz.ntmps78
  go_wp2
  go_ret
  exact ⟨rfl, rfl⟩
end Go.Proofs.YtmgachknfeamkaaGreat
namespace Go.Proofs.YtmgachknfeamkaaGreat
open Go.RowKit Go.WideShapes
attribute [local go_sem] Oper.semAt_some

set_option maxRecDepth 100000 in
theorem make_at (w : World) (f : Nat) :
    Calls Tryz.prog 13 #[.pointer (some ⟨f, 0, none⟩)] w fun e w' => ∃ s q, e = .returned (.pointer (some ⟨s, 0, none⟩)) ∧ Blk w' s 3 (spF f 114 q 0) ∧ Blk w' q 2 (sdF f (.slice none 0 0)) ∧ w.heap.size ≤ s ∧ w.heap.size ≤ q ∧ Below w.heap.size w w' := by
  have h1 := eqFa f
  obtain ⟨w1, hw1⟩ : ∃ y, w.alloc (.cells #[.pointer (some ⟨f, 0, none⟩), .slice none 0 0] 116) = y := ⟨_, rfl⟩
  obtain ⟨w2, hw2⟩ : ∃ y, w1.alloc (.cells #[.pointer (some ⟨f, 0, none⟩), .iface 114 (.pointer (some ⟨w.heap.size, 0, none⟩)), .int .u64 0] 63) = y := ⟨_, rfl⟩
  have hB1 : Below w.heap.size w w1 := by rw [← hw1]; exact (Below.refl _ w).alloc (Nat.le_refl _) _
  have hs1 : w1.heap.size = w.heap.size + 1 := by rw [← hw1]; simp
  have hB2 : Below w1.heap.size w1 w2 := by rw [← hw2]; exact (Below.refl _ w1).alloc (Nat.le_refl _) _
  have hq : Blk w2 w.heap.size 2 (sdF f (.slice none 0 0)) := by
    have : Blk w1 w.heap.size 2 (sdF f (.slice none 0 0)) := by
      rw [← hw1]
      refine (Blk.new w _ _).congr fun j hj => ?_
      have : j = 0 ∨ j = 1 := by simp at hj; omega
      rcases this with rfl | rfl <;> rfl
    exact this.of hB2 (by omega)
  have hb : Blk w2 w1.heap.size 3 (spF f 114 w.heap.size 0) := by
    rw [← hw2]
    refine (Blk.new w1 _ _).congr fun j hj => ?_
    have : j = 0 ∨ j = 1 ∨ j = 2 := by simp at hj; omega
    rcases this with rfl | rfl | rfl <;> rfl
  have HBw : Hid (Below w.heap.size w w2) := hB1.trans (hB2.mono (by omega))
  have HQ := Lib.hid hq
  have HB := Lib.hid hb
  have HS := Lib.hid hs1
  have HW1 := Lib.hid hw1
  have HW2 := Lib.hid hw2
  clear hw1 hw2 hB1 hB2 hq hb hs1
  go_enter Tryz.func13, Tryz.ntmps13
  go_wp2
  rw [HW1.out, HW2.out]
  go_ret
  exact ⟨_, _, by first | rfl | (simp [← HW1.out]), HB.out, HQ.out, by have := HS.out; omega, Nat.le_refl _, HBw.out⟩
set_option maxRecDepth 100000 in
theorem slen_row {w : World} {f s q n cap : Nat} {av : Option Addr} {v : Nat} (hs : Blk w s 3 (spF f 114 q v)) (k1 : w.cell? ⟨q, 1, none⟩ = some (.slice av n cap)) :
    Calls Tryz.prog 20 #[.pointer (some ⟨s, 0, none⟩)] w fun e w' => e = .returned (.int .i64 (n : Int)) ∧ w' = w := by
  have x1 : w.cell? ⟨s, 1, none⟩ = some (.iface 114 (.pointer (some ⟨q, 0, none⟩))) := hs.c 1 (by omega)
  have CN := isNothing_no x1
  have mz := mR_size (some ⟨q, 0, none⟩)
  have CZ := rowSize_any k1
  clear hs k1
  go_enter Tryz.func20, Tryz.ntmps20
  go_wp2_with fail
  refine CN.mono ?_
  rintro e w1 ⟨rfl, rfl⟩
  clear CN
  go_wp2_with fail
  refine CZ.mono ?_
  rintro e w2 ⟨rfl, rfl⟩
  clear CZ
  go_wp2
  go_ret
  exact ⟨rfl, rfl⟩
set_option maxRecDepth 100000 in
set_option maxHeartbeats 1600000 in
/-- A zero family has room for no name. -/
theorem set_zero {w : World} {f s q g gi r h : Nat} (hf : Blk w f 6 (zF0 (some ⟨g, 0, none⟩))) (hD : Dt w g gi r h (.slice none 0 0) Tb.new (.pointer none)) (hs : Blk w s 3 (spF f 114 q 0)) (hq : Blk w q 2 (sdF f (.slice none 0 0))) {nm : ByteArray} (hnm : nm.size ≤ 3000) (v : Int) :
    Calls Tryz.prog 18 #[.pointer (some ⟨s, 0, none⟩), .string nm, .int .i64 v] w fun e w' => e = .returned (.int .i64 6) ∧ Below w.heap.size w w' := by
  have lf := hf.lt (by omega)
  have ls := hs.lt (by omega)
  have lq := hq.lt (by omega)
  have x1 : w.cell? ⟨s, 1, none⟩ = some (.iface 114 (.pointer (some ⟨q, 0, none⟩))) := hs.c 1 (by omega)
  have CS := (seek_gen (q := q) (t := Tb.new) (T := 114) (Fn := 181) (M := fun a b w => no4 a b 0 0 w) (a := 0) (b := 0) hnm (hs.c 0 (by omega)) (hs.c 1 (by omega)) (fun w => mR_table _ w) (fun args w => Tryz.call181 args w) (numberOf_nil (hf.c 4 (by omega)) hnm) (rowTable_any (hq.c 0 (by omega)) (hf.c 1 (by omega))) hD Tb.new_ok (m4_nil.mt 0 0) (m4_nil.vi 0 0) trivial (by omega) (by simp [Tb.new]) (fun n hn => absurd hn.1 (by simp [Tb.new]))).mono (R' := fun e w' => e = .returned (.int .i64 (-1)) ∧ Below w.heap.size w w') (fun e w' ⟨res, jj, he, hR, _, hx⟩ => by
    rcases hR with ⟨n, _, hn, _⟩ | ⟨rfl, _⟩
    · exact absurd hn.1 (by simp [Tb.new])
    · exact ⟨he, hx.below (fun k hk => (noMet hk).elim) (Nat.le_refl _)⟩)
  have CN := isNothing_no x1
  have mh := mR_has (some ⟨q, 0, none⟩)
  have mz := mR_size (some ⟨q, 0, none⟩)
  have HF := Lib.hid hf
  have HS := Lib.hid hs
  have HQ := Lib.hid hq
  clear hf hD hs hq
  go_enter Tryz.func18, Tryz.ntmps18
  go_wp2_with fail
  refine CN.mono ?_
  rintro e w0 ⟨rfl, rfl⟩
  clear CN
  go_wp2_with fail
  refine CS.mono ?_
  rintro e w1 ⟨rfl, hB1⟩
  clear CS x1
  have CH := rowHas_none (w := w1) (q := q)
  have hf1 := HF.out.of hB1 (by omega)
  have hs1 := HS.out.of hB1 (by omega)
  have hq1 := HQ.out.of hB1 (by omega)
  have y1 : w1.cell? ⟨s, 1, none⟩ = some (.iface 114 (.pointer (some ⟨q, 0, none⟩))) := hs1.c 1 (by omega)
  have x0 : w1.drew.cell? ⟨s, 0, none⟩ = some (.pointer (some ⟨f, 0, none⟩)) := hs1.c 0 (by omega)
  have d1 : w1.drew.cell? ⟨s, 1, none⟩ = some (.iface 114 (.pointer (some ⟨q, 0, none⟩))) := y1
  have d3 : w1.drew.cell? ⟨f, 3, none⟩ = some (.int .i64 0) := hf1.c 3 (by omega)
  have CSZ := rowSize_any (w := w1.drew) (q := q) (n := 0) (cap := 0) (av := none) (hq1.c 1 (by omega))
  have HB1 := Lib.hid hB1
  clear hf1 hs1 hq1 hB1
  go_wp2_with fail
  refine CH.mono ?_
  rintro e w3 ⟨rfl, rfl⟩
  clear CH
  go_wp2_with fail
  go_region_held3 (fun V => V.cell? ⟨s, 0, none⟩ = some (.pointer (some ⟨f, 0, none⟩)) ∧ V.cell? ⟨s, 1, none⟩ = some (.iface 114 (.pointer (some ⟨q, 0, none⟩))) ∧ V.cell? ⟨f, 3, none⟩ = some (.int .i64 0))
    (first | with_reducible exact ⟨x0, d1, d3⟩ | fail)
    (first | (go_at_call 180; refine CSZ.mono ?_; rintro e w4 ⟨rfl, rfl⟩) | fail)
  go_wp2
  go_ret
  exact ⟨rfl, HB1.out.drew⟩
set_option maxRecDepth 100000 in
set_option maxHeartbeats 4000000 in
/-- Names of no entries. -/
theorem names_none {w : World} {pv : Option Addr} {X : Nat → Prop} {R : Option Addr → World → Prop} (hX : ∀ k, X k → k < w.heap.size)
    (HK : ∀ W, Below w.heap.size w W → Calls Tryz.prog 41 #[.pointer pv] W fun e W' => ∃ gp, e = .returned (.pointer gp) ∧ R gp W' ∧ Ex X W W')
    (HA : ∀ W gp, R gp W → Calls Tryz.prog 42 #[.pointer gp] W fun e W' => ∃ b v, e = .returned (.func (.func 71) #[] #[.pointer (some ⟨b, 0, none⟩)]) ∧ b < W'.heap.size ∧ W'.cell? ⟨b, 0, none⟩ = some v ∧ Es W' v [] ∧ Below W.heap.size W W')
    (HR : ∀ gp W W', R gp W → Below W.heap.size W W' → R gp W') :
    Calls Tryz.prog 14 #[.pointer pv] w fun e w' => e = .returned (.slice none 0 0) ∧ (∃ gp, R gp w') ∧ Ex X w w' := by
  obtain ⟨w1, hw1⟩ : ∃ y, w.alloc (.cells #[.pointer pv] 52) = y := ⟨_, rfl⟩
  obtain ⟨w2, hw2⟩ : ∃ y, w1.alloc (.cells #[.slice none 0 0] 56) = y := ⟨_, rfl⟩
  have hb1 : Below w.heap.size w w1 := by rw [← hw1]; exact (Below.refl _ w).alloc (Nat.le_refl _) _
  have hX1 : Blk w1 w.heap.size 1 (fun j => #[Value.pointer pv].getD j .nilFunc) := by rw [← hw1]; exact Blk.new w _ _
  have hs1 : w1.heap.size = w.heap.size + 1 := by rw [← hw1]; simp
  have hb2' : Below w1.heap.size w1 w2 := by rw [← hw2]; exact (Below.refl _ w1).alloc (Nat.le_refl _) _
  have hX2 : Blk w2 w1.heap.size 1 (fun j => #[Value.slice none 0 0].getD j .nilFunc) := by rw [← hw2]; exact Blk.new w1 _ _
  have hs2 : w2.heap.size = w.heap.size + 2 := by rw [← hw2]; simp; omega
  have hX12 := hX1.of hb2' (by omega)
  have hb2 : Below w.heap.size w w2 := hb1.trans (hb2'.mono (by omega))
  have CK := HK w2 hb2
  have c1 : w2.cell? ⟨w.heap.size, 0, none⟩ = some (.pointer pv) := hX12.c 0 (by omega)
  have c3 : w2.cell? ⟨w.heap.size + 1, 0, none⟩ = some (.slice none 0 0) := by rw [← hs1]; exact hX2.c 0 (by omega)
  have HW1 := Lib.hid hw1
  have HW2 := Lib.hid hw2
  refine callsIn_wide.1 (callsIn_of_wp_marks (n := 0) Tryz.func14 rfl trivial ?_ rfl)
  simp only [Tryz.ntmps14, List.size_toArray, List.length_cons, List.length_nil, Nat.reduceAdd, Nat.reduceSub, Array.replicate_succ, Array.replicate_zero, List.push_toArray, List.append_toArray, List.nil_append, List.cons_append]
  clear hw1 hw2 hX1 hX2 hX12 hb1 hb2' HK
  gi_wp2_with fail
  rw [HW1.out, HW2.out]
  refine ⟨trivial, rfl, (callsIn_wide.2 CK).mono ?_⟩
  rintro e w3 ⟨gp, rfl, hR3, hx3⟩
  clear CK
  have CA := HA w3 gp hR3
  have hs3 := hx3.size
  have HR3 := Lib.hid hR3
  clear hR3
  gi_wp2_with fail
  refine ⟨trivial, rfl, (callsIn_wide.2 CA).mono ?_⟩
  rintro e w4 ⟨b, v0, rfl, hbl, hbc, hE4, hB4⟩
  clear CA
  have hx24 : Ex X w2 w4 := hx3.trans (ex_of hB4)
  have d3 : w4.cell? ⟨w.heap.size + 1, 0, none⟩ = some (.slice none 0 0) := (World.cell?_of_block (a := ⟨w.heap.size + 1, 0, none⟩) (hx24.block (w.heap.size + 1) (by omega) (fun y => by have := hX _ y; omega))).trans c3
  have HX4 : Hid (Ex X w w4) := (ex_of hb2).trans hx24
  have HR4 : Hid (R gp w4) := HR gp w3 w4 HR3.out hB4
  have hs4 := hB4.size
  have HSQ := Lib.hid (all1_fr (es := []) (v := v0) b w4 (by simp) (fun i => i) (fun i hi => absurd hi (by simp)))
  have HE := Lib.hid hE4
  have HBC := Lib.hid hbc
  have HRR := Lib.hid HR
  clear hE4 hB4 c1 c3 hb2 hx24 hx3 HR3 hbc HA HR
  gi_wp2_with fail
  refine wpIn_range_fr (fun l => { target := .fn (.func 71) #[.pointer (some ⟨b, 0, none⟩)], args := #[.func (.yield l) #[] #[]] }) (fun l W => by simp [resolve, Deferred.ofValue, go_sem, Act.eval]) (fun l W => by simp [invoke, go_sem, Tryz.call71])
    HSQ.out (fun _ => rfl) (fun k W => Below w4.heap.size w4 W) ?hI ?hIp ?hIk (Below.refl _ _) (fun _ _ _ => False) (fun _ _ _ _ h => h) (fun _ i _ _ _ hi => absurd hi (Nat.not_lt_zero _)) (fun _ i _ _ hi => absurd hi (Nat.not_lt_zero _)) ?done
  case hI =>
    intro k A A' x1 hb
    exact x1.trans (hb.mono x1.size)
  case hIp =>
    intro k A o x1
    exact x1.trans (below_put (by omega))
  case hIk =>
    intro k A x1
    exact ⟨HE.out.same fun j hj => x1.block j (HE.out.lt j hj), (x1.cell (p := ⟨b, 0, none⟩) hbl).trans HBC.out⟩
  case done =>
    intro W x1 hK
    have cb : W.cell? ⟨w.heap.size + 1, 0, none⟩ = some (.slice none 0 0) := (x1.cell (p := ⟨w.heap.size + 1, 0, none⟩) (by show w.heap.size + 1 < _; omega)).trans d3
    have HX1 := Lib.hid x1
    clear x1
    gi_wp2_with fail
    gi_wp2
    refine ⟨by simp, .inl ⟨_, _, rfl, run_takeDeferred hK, ?_⟩⟩
    exact ⟨_, results_tmp rfl _ _ _, rfl, ⟨gp, HRR.out gp w4 _ HR4.out (HX1.out.trans (below_put (by omega)))⟩, HX4.out.trans (ex_of (HX1.out.trans (below_put (by omega))))⟩
theorem es_nil (w : World) : Es w (.slice none 0 0) [] := World.ownsRow_nil _ _ _ _
theorem names_nil (w : World) : Calls Tryz.prog 14 #[.pointer none] w fun e w' => e = .returned (.slice none 0 0) ∧ Below w.heap.size w w' :=
  (names_none (w := w) (pv := none) (X := fun _ => False) (R := fun gp _ => gp = none) (fun _ h => h.elim) (fun W _ => (keys_nil W).mono fun e W' ⟨he, hw⟩ => ⟨none, he, rfl, by rw [hw]; exact Ex.refl _ _⟩)
    (fun W gp hg => by
      subst hg
      exact (all_nil W).mono fun e W' ⟨b, he, hb, hc, hB⟩ => ⟨b, _, he, hb, hc, es_nil _, hB⟩) (fun _ _ _ h _ => h)).mono fun e w' ⟨he, _, hx⟩ => ⟨he, hx.below (fun _ h => h.elim) (Nat.le_refl _)⟩
/-- A zero family with its key table. -/
def Zf (w : World) (f g gi r h : Nat) : Prop := Blk w f 6 (zF0 (some ⟨g, 0, none⟩)) ∧ Dt w g gi r h (.slice none 0 0) Tb.new (.pointer none)
theorem Zf.below {w w' : World} {f g gi r h : Nat} (x : Zf w f g gi r h) (hb : Below w.heap.size w w') : Zf w' f g gi r h := ⟨x.1.of hb (by omega), x.2.below hb⟩
theorem names_zero {w : World} {f : Nat} (hf : Blk w f 6 (zF0 none)) : Calls Tryz.prog 14 #[.pointer (some ⟨f, 0, none⟩)] w fun e w' => e = .returned (.slice none 0 0) ∧ (∃ g gi r h, Zf w' f g gi r h) ∧ Ex (fun k => k = f) w w' :=
  (names_none (w := w) (pv := some ⟨f, 0, none⟩) (X := fun k => k = f) (R := fun gp W => ∃ g gi r h, gp = some ⟨g, 0, none⟩ ∧ Zf W f g gi r h) (fun k hk => by rw [hk]; exact hf.lt (by omega))
    (fun W hW => (keys_zero (hf.of hW (by omega))).mono fun e W' ⟨g, gi, r, h, he, h1, h2, _, h4⟩ => ⟨_, he, ⟨g, gi, r, h, rfl, h1, h2⟩, h4⟩)
    (fun W gp ⟨g, gi, r, h, hg, hz⟩ => by
      subst hg
      exact (all7_new (hz.2.hd.c 2 (by omega)) hz.2.es (by simp [Tb.new])).mono fun e W' ⟨b, v, he, _, hb, hc, hE, _, hB⟩ => ⟨b, v, he, hb, hc, hE.es, hB⟩)
    (fun gp W W' ⟨g, gi, r, h, hg, hz⟩ hB => ⟨g, gi, r, h, hg, hz.below hB⟩)).mono fun e w' ⟨he, ⟨gp, g, gi, r, h, _, hz⟩, hx⟩ => ⟨he, ⟨g, gi, r, h, hz⟩, hx⟩
set_option maxRecDepth 100000 in
set_option maxHeartbeats 4000000 in
theorem sight10_none (w : World) : Calls Tryz.prog 15 #[siV 0 0 none 0 0 none 0 0 0 0 0, siV 0 0 none 0 0 none 0 0 0 0 0] w fun e w' => e = .returned (.bool true) ∧ Below w.heap.size w w' := by
  obtain ⟨w1, hw1⟩ : ∃ w1, w.alloc (.cells #[.int .i64 0, .int .i64 0, .slice none 0 0, .slice none 0 0, .int .i64 0, .int .i64 0, .int .i64 0] 71) = w1 := ⟨_, rfl⟩
  have hB1 : Blk w1 w.heap.size 7 (fun j => #[Value.int .i64 0, .int .i64 0, .slice none 0 0, .slice none 0 0, .int .i64 0, .int .i64 0, .int .i64 0].getD j .nilFunc) := by rw [← hw1]; exact Blk.new w _ _
  have hb1 : Below w.heap.size w w1 := by rw [← hw1]; exact (Below.refl _ w).alloc (Nat.le_refl _) _
  have hs1 : w1.heap.size = w.heap.size + 1 := by rw [← hw1]; simp
  obtain ⟨w2, hw2⟩ : ∃ w2, w1.alloc (.cells #[.int .i64 0, .int .i64 0, .slice none 0 0, .slice none 0 0, .int .i64 0, .int .i64 0, .int .i64 0] 71) = w2 := ⟨_, rfl⟩
  have hB2 : Blk w2 w1.heap.size 7 (fun j => #[Value.int .i64 0, .int .i64 0, .slice none 0 0, .slice none 0 0, .int .i64 0, .int .i64 0, .int .i64 0].getD j .nilFunc) := by rw [← hw2]; exact Blk.new w1 _ _
  have hb2 : Below w1.heap.size w1 w2 := by rw [← hw2]; exact (Below.refl _ w1).alloc (Nat.le_refl _) _
  have hB1' := hB1.of hb2 (by omega)
  rw [hs1] at hB2
  have HBW := Lib.hid (hb1.trans (hb2.mono hb1.size))
  have b0 : w2.cell? ⟨w.heap.size, 0, none⟩ = some (.int .i64 0) := hB1'.c 0 (by omega)
  have b1 : w2.cell? ⟨w.heap.size, 1, none⟩ = some (.int .i64 0) := hB1'.c 1 (by omega)
  have b2 : w2.cell? ⟨w.heap.size, 2, none⟩ = some (.slice none 0 0) := hB1'.c 2 (by omega)
  have b3 : w2.cell? ⟨w.heap.size, 3, none⟩ = some (.slice none 0 0) := hB1'.c 3 (by omega)
  have b4 : w2.cell? ⟨w.heap.size, 4, none⟩ = some (.int .i64 0) := hB1'.c 4 (by omega)
  have b5 : w2.cell? ⟨w.heap.size, 5, none⟩ = some (.int .i64 0) := hB1'.c 5 (by omega)
  have b6 : w2.cell? ⟨w.heap.size, 6, none⟩ = some (.int .i64 0) := hB1'.c 6 (by omega)
  have d0 : w2.cell? ⟨w.heap.size + 1, 0, none⟩ = some (.int .i64 0) := hB2.c 0 (by omega)
  have d1 : w2.cell? ⟨w.heap.size + 1, 1, none⟩ = some (.int .i64 0) := hB2.c 1 (by omega)
  have d2 : w2.cell? ⟨w.heap.size + 1, 2, none⟩ = some (.slice none 0 0) := hB2.c 2 (by omega)
  have d3 : w2.cell? ⟨w.heap.size + 1, 3, none⟩ = some (.slice none 0 0) := hB2.c 3 (by omega)
  have d4 : w2.cell? ⟨w.heap.size + 1, 4, none⟩ = some (.int .i64 0) := hB2.c 4 (by omega)
  have d5 : w2.cell? ⟨w.heap.size + 1, 5, none⟩ = some (.int .i64 0) := hB2.c 5 (by omega)
  have d6 : w2.cell? ⟨w.heap.size + 1, 6, none⟩ = some (.int .i64 0) := hB2.c 6 (by omega)
  have HW1 := Lib.hid hw1
  have HW2 := Lib.hid hw2
  clear hw1 hw2 hB1 hb1 hB2 hb2 hB1'
  unfold siV
  go_enter Tryz.func15, Tryz.ntmps15
  go_upto_region 1 with fail
  rw [HW1.out, HW2.out]
  try rw [hs1]
  clear HW1 HW2
  go_wp2_with fail
  go_loopw [5] (fun iv wr => iv = .int .i64 0 ∧ wr = w2) (fun _ _ => 0)
  case atStart => exact ⟨rfl, rfl⟩
  case round =>
    obtain ⟨rfl, rfl⟩ := hrel
    go_wp2_with fail
    go_loopw [6] (fun iv wr' => iv = .int .i64 0 ∧ wr' = wr) (fun _ _ => 0)
    case atStart => exact ⟨rfl, rfl⟩
    case round =>
      obtain ⟨rfl, rfl⟩ := hrel
      go_wp2
      go_ret
      exact ⟨rfl, HBW.out⟩
end Go.Proofs.YtmgachknfeamkaaGreat
