/-
  The document's machine: Step where it was told that it is the same.
  The document's dictionary: New, Clear, Copy.
  Calls of a nil dictionary and of a nil machine.
  Clear.
  What a table of adds and kills holds. No program.
  Rows of ints of one's own.
  The reference's All and Numbers, of any row of entries; the live entries' numbers.
-/
import Derived.Test.YtejfmajbggmghaaGreatRpStep
import Derived.Test.YtejfmajbggmghaaGreatGk
import Derived.Test.YtejfmajbggmghaaGreatGj
import Derived.Laws.EntriesVeiled
import Derived.Test.YtejfmajbggmghaaGreatGf
import Derived.Test.YtejfmajbggmghaaGreatTbModel
import Derived.Test.YtejfmajbggmghaaGreatEnMem
import Derived.LoopTactic
import Derived.OwnWalkIn
import Derived.Test.YtejfmajbggmghaaGreatTfTell
namespace Go.Proofs.YtejfmajbggmghaaGreat
open Go.RowKit Go.WideShapes

set_option maxRecDepth 100000 in
set_option maxHeartbeats 8000000 in
theorem rstep_told {w : World} {d g q : Nat} {ev : Value} {t : Tb} {pr : Option Addr} {most : Int} {v : Nat} {a b : Int} (hR : Rdc w d g q ev t (.pointer pr) most v) (hM : Ms w (.pointer pr) a b 0 0) (ht : t.turn ≤ 1000000) (hlen : t.es.length ≤ 100000) (hv : v ≤ 1000000000) {y s0 : Nat} {m : Ma} {z : Rz} (hm : Rm w y (.pointer (some ⟨s0, 0, none⟩)) d m z) (hov : z.over = false) (hwt : z.waits = false) (hsame : z.same = true) (hev : m.ver = v) (ny : ¬ rX d g q ev y) (nmy : ¬ mB (.pointer pr) y) (n : Nat) (hat : z.at_ = (n : Int)) (hn : n < t.es.length) (hl : (nth t.es n).live = true) :
    Calls Tryz.prog 33 #[.pointer (some ⟨y, 0, none⟩)] w fun e w' => ∃ u, e = .returned (tuV u) ∧ u = ⟨2, 0, true, (nth t.es n).value, (n : Int)⟩ ∧ Rcd w d g q ev (.pointer pr) (fun k => k = y ∨ mB (.pointer none) k) a b most (hitN m.goal v) (hitT m t n) w' q ev ∧ Rm w' y (.pointer (some ⟨s0, 0, none⟩)) d m { z with over := true, u := u } := by
  obtain ⟨w1, hw1⟩ : ∃ V, w.alloc (.cells #[.int .i64 0, .int .i64 0, .bool false, .int .i64 0, .int .i64 0] 45) = V := ⟨_, rfl⟩
  obtain ⟨hX1, hB1, hs1⟩ := tu_zero_blk w hw1
  have hm2 : Rm w1 y (.pointer (some ⟨s0, 0, none⟩)) d m z := hm.of hB1 (by omega)
  have ly := hm.lt (by omega)
  have hR1 := hR.below hB1
  have k0 : w1.cell? ⟨y, 0, none⟩ = some (.pointer (some ⟨d, 0, none⟩)) := hm2.c 0 (by omega)
  have k5 : w1.cell? ⟨y, 5, none⟩ = some (.pointer (some ⟨s0, 0, none⟩)) := hm2.c 5 (by omega)
  have k6 : w1.cell? ⟨y, 6, none⟩ = some (.int .i64 (m.ver : Int)) := hm2.c 6 (by omega)
  have k8 : w1.cell? ⟨y, 8, none⟩ = some (.bool false) := by rw [← hwt]; exact hm2.c 8 (by omega)
  have k9 : w1.cell? ⟨y, 9, none⟩ = some (.bool true) := by rw [← hsame]; exact hm2.c 9 (by omega)
  have k10 : w1.cell? ⟨y, 10, none⟩ = some (.bool false) := by rw [← hov]; exact hm2.c 10 (by omega)
  have x1 : w1.cell? ⟨d, 1, none⟩ = some (.int .i64 (v : Int)) := hR1.hd.c 1 (by omega)
  have hyR : w.heap.size ≠ y := by omega
  have hs0 := eqRS s0
  have t1 : ((v : Int) != (m.ver : Int)) = false := by rw [hev]; simp
  have hbq : Hid (∀ k, Below w.heap.size w (w1.drewN k)) := fun k => ⟨hB1.os, hB1.tape, hB1.output, hB1.size, hB1.block⟩
  have HX : Hid (∀ k, Rm (w1.drewN k) y (.pointer (some ⟨s0, 0, none⟩)) d m z ∧ Blk (w1.drewN k) w.heap.size 5 (fun j => #[Value.int .i64 0, .int .i64 0, .bool false, .int .i64 0, .int .i64 0].getD j .nilFunc) ∧ (w1.drewN k).heap.size = w.heap.size + 1) := fun k => ⟨Blk.same hm2 rfl, hX1.same rfl, hs1⟩
  have HR := Lib.hid hR
  have HM := Lib.hid hM
  have HC : Hid (∀ k, Calls Tryz.prog 64 #[.pointer (some ⟨y, 0, none⟩)] (w1.drewN k) fun e w' => ∃ u, e = .returned (tuV u) ∧ u = ⟨2, 0, true, (nth t.es n).value, (n : Int)⟩ ∧ Rcd (w1.drewN k) d g q ev (.pointer pr) (fun k => k = y) a b most (hitN m.goal v) (hitT m t n) w' q ev ∧ Rm w' y (.pointer (some ⟨s0, 0, none⟩)) d m { z with over := true, u := u }) := fun k => rhit_any (w := w1.drewN k) (hR1.same fun _ _ => rfl) ((hM.below hB1).same fun _ _ => rfl) hv ht hlen (Blk.same hm2 rfl) ny nmy n hat hn hl
  have HW1 := Lib.hid hw1
  clear hR hM hm hm2 hB1 hX1 hw1 hs1 hR1 hov hwt hsame hev hat hn hl ht hlen hv
  unfold tuV at HC ⊢
  go_enter Tryz.func33, Tryz.ntmps33
  go_upto_region 1 with fail
  rw [HW1.out]
  go_upto_region 3 with fail
  go_quiet (fail)
  have C1 := HC.out nq
  obtain ⟨hmq, hZq, hsq⟩ := HX.out nq
  have k9' : (w1.drewN nq).cell? ⟨y, 9, none⟩ = some (.bool true) := k9
  have HB := Lib.hid (hbq.out nq)
  have HMQ := Lib.hid hmq
  have HZQ := Lib.hid hZq
  clear k0 k5 k6 k8 k9 k10 x1 hs0 t1 HC HX hbq hmq hZq
  generalize w1.drewN nq = wq at *
  go_wp2_with fail
  refine C1.mono ?_
  rintro e w9 ⟨u, rfl, hu, hc, hm9⟩
  clear C1 k9'
  have hRe : Blk w9 w.heap.size 5 _ := HZQ.out.same (hc.ex.block _ (by omega) (fun h => by
    rcases h with h | h | h
    · have := HR.out.lt _ h; omega
    · have := HM.out.lt _ h; omega
    · exact hyR h))
  have q0 : w9.cell? ⟨w.heap.size, 0, none⟩ = some (.int .i64 0) := hRe.c 0 (by omega)
  have q1 : w9.cell? ⟨w.heap.size, 1, none⟩ = some (.int .i64 0) := hRe.c 1 (by omega)
  have q2 : w9.cell? ⟨w.heap.size, 2, none⟩ = some (.bool false) := hRe.c 2 (by omega)
  have q3 : w9.cell? ⟨w.heap.size, 3, none⟩ = some (.int .i64 0) := hRe.c 3 (by omega)
  have q4 : w9.cell? ⟨w.heap.size, 4, none⟩ = some (.int .i64 0) := hRe.c 4 (by omega)
  have z0 := hRe.z 0
  have z1 := hRe.z 1
  have z2 := hRe.z 2
  have z3 := hRe.z 3
  have z4 := hRe.z 4
  obtain ⟨wZ, hwZ⟩ : ∃ V, (put5 w9 w.heap.size (.int .i64 u.kind) (.int .i64 u.key) (.bool u.found) (.int .i64 u.value) (.int .i64 u.entry)) = V := ⟨_, rfl⟩
  have hbz : ∀ k, k ≠ w.heap.size → wZ.heap[k]? = w9.heap[k]? := fun k hk => by rw [← hwZ]; exact putU_other w9 w.heap.size u k hk
  have hRz : Blk wZ w.heap.size 5 (fun j => [Value.int .i64 u.kind, .int .i64 u.key, .bool u.found, .int .i64 u.value, .int .i64 u.entry].getD j .nilFunc) := by rw [← hwZ]; exact put5_blk hRe _ _ _ _ _
  have HFIN : Hid (u = ⟨2, 0, true, (nth t.es n).value, (n : Int)⟩ ∧ Rcd w d g q ev (.pointer pr) (fun k => k = y ∨ mB (.pointer none) k) a b most (hitN m.goal v) (hitT m t n) wZ q ev ∧ Rm wZ y (.pointer (some ⟨s0, 0, none⟩)) d m { z with over := true, u := u }) := ⟨hu, by rw [← hwZ]; exact Rcd.up HR.out.lt HM.out.lt (ex_of HB.out) (by omega) hc u, hm9.same (hbz y hyR.symm)⟩
  have HR9 := Lib.hid hRz
  have HWZ := Lib.hid hwZ
  unfold put5 at HWZ
  clear hwZ hRz hbz hRe hu hc hm9
  go_wp2_with fail
  have HWE := HWZ.out
  rw [HWE]
  clear HWE
  have o0 : wZ.cell? ⟨w.heap.size, 0, none⟩ = some (.int .i64 u.kind) := HR9.out.c 0 (by omega)
  have o1 : wZ.cell? ⟨w.heap.size, 1, none⟩ = some (.int .i64 u.key) := HR9.out.c 1 (by omega)
  have o2 : wZ.cell? ⟨w.heap.size, 2, none⟩ = some (.bool u.found) := HR9.out.c 2 (by omega)
  have o3 : wZ.cell? ⟨w.heap.size, 3, none⟩ = some (.int .i64 u.value) := HR9.out.c 3 (by omega)
  have o4 : wZ.cell? ⟨w.heap.size, 4, none⟩ = some (.int .i64 u.entry) := HR9.out.c 4 (by omega)
  refine bodyPost_ret (v := .agg #[.int .i64 u.kind, .int .i64 u.key, .bool u.found, .int .i64 u.value, .int .i64 u.entry]) ?_ rfl ⟨u, rfl, HFIN.out.1, HFIN.out.2.1, HFIN.out.2.2⟩
  simp [results, Tryz.results33, go_sem, o0, o1, o2, o3, o4]
end Go.Proofs.YtejfmajbggmghaaGreat
namespace Go.Proofs.YtejfmajbggmghaaGreat
open Go.RowKit Go.WideShapes

set_option maxRecDepth 100000 in
theorem rpnew_any {w : World} {pr : Option Addr} {a b : Int} (hM : Ms w (.pointer pr) a b 0 0) (ha : 0 ≤ a ∧ a ≤ 1000000000) (most : Int) (h0 : 0 ≤ most) (h1 : most ≤ 65536) :
    Calls Tryz.prog 6 #[.int .i64 most, .pointer pr] w fun e w' => ∃ d g q, e = .returned (.tuple #[.pointer (some ⟨d, 0, none⟩), .int .i64 0]) ∧ (∀ k, rX d g q (.slice none 0 0) k → w.heap.size ≤ k) ∧ Rdc w' d g q (.slice none 0 0) Tb.new (.pointer pr) most 0 ∧ Ms w' (.pointer pr) (a + 1) b 0 0 ∧ Ex (mB (.pointer pr)) w w' := by
  have C1 := rtnew_s hM ha
  have t0 : decide (most < 0) = false := decide_eq_false (by omega)
  have t1 : decide (65536 < most) = false := decide_eq_false (by omega)
  have HLM := Lib.hid hM.lt
  clear hM
  go_enter Tryz.func6, Tryz.ntmps6
  go_wp2_with fail
  refine C1.mono ?_
  rintro e w1 ⟨g, q, rfl, hg, hq, hR, hM1, hX1⟩
  clear C1 t0 t1
  obtain ⟨w2, hw2⟩ : ∃ y, w1.alloc (.cells #[.int .i64 most, .int .i64 0, .pointer (some ⟨g, 0, none⟩)] 61) = y := ⟨_, rfl⟩
  have hb2 : Below w1.heap.size w1 w2 := by rw [← hw2]; exact (Below.refl _ w1).alloc (Nat.le_refl _) _
  have hB2 : Blk w2 w1.heap.size 3 (rdF most 0 g) := by
    rw [← hw2]
    refine (Blk.new w1 _ _).congr fun j hj => ?_
    have : j = 0 ∨ j = 1 ∨ j = 2 := by simp at hj; omega
    rcases this with rfl | rfl | rfl <;> rfl
  have hl := hR.lt'
  have HD : Hid (Rdc w2 w1.heap.size g q (.slice none 0 0) Tb.new (.pointer pr) most 0) := ⟨hB2, hR.same fun k hk => hb2.block k (hl k hk), fun h => by
    have := hl _ h; omega, fun hk => by have h9 := HLM.out _ hk; have h8 : w.heap.size ≤ w1.heap.size := hX1.size; omega⟩
  have HM2 : Hid (Ms w2 (.pointer pr) (a + 1) b 0 0) := hM1.below hb2
  have HX2 : Hid (Ex (mB (.pointer pr)) w w2) := hX1.next (ex_of hb2 (X := mB (.pointer pr))) (fun _ _ y => y)
  have HS : Hid (∀ k, rX w1.heap.size g q (.slice none 0 0) k → w.heap.size ≤ k) := fun k hk => by
    rcases hk with rfl | rfl | rfl | hk
    · exact hX1.size
    · exact hg
    · exact hq
    · cases hk
  have HW2 := Lib.hid hw2
  clear hw2 hb2 hB2 hl hR hM1 hX1
  go_wp2_with fail
  rw [HW2.out]
  refine bodyPost_ret (v := .tuple #[.pointer (some ⟨w1.heap.size, 0, none⟩), .int .i64 0]) ?_ rfl ⟨_, g, q, rfl, HS.out, HD.out, HM2.out, HX2.out⟩
  simp [results, Tryz.results6, go_sem]
theorem rpnew_bad (w : World) (mr : Value) (most : Int) (h0 : most < 0 ∨ 65536 < most) :
    Calls Tryz.prog 6 #[.int .i64 most, mr] w fun e w' => e = .returned (.tuple #[.pointer none, .int .i64 1]) ∧ w' = w := by
  rcases (by omega : most < 0 ∨ (¬ most < 0 ∧ 65536 < most)) with t0 | ⟨t0, t1⟩
  all_goals
    clear h0
    go_enter Tryz.func6, Tryz.ntmps6
    go_wp2
    go_ret2
    exact ⟨rfl, rfl⟩
theorem pnew_bad (w : World) (mv : Value) (most : Int) (h0 : most < 0 ∨ 65536 < most) :
    Calls Tryz.prog 5 #[.int .i64 most, mv] w fun e w' => e = .returned (.tuple #[.pointer none, .int .i64 1]) ∧ w' = w := by
  rcases (by omega : most < 0 ∨ (¬ most < 0 ∧ 65536 < most)) with t0 | ⟨t0, t1⟩
  all_goals
    clear h0
    go_enter Tryz.func5, Tryz.ntmps5
    go_wp2
    go_ret2
    exact ⟨rfl, rfl⟩
set_option maxRecDepth 100000 in
theorem rclear8_any {w : World} {d g q : Nat} {ev : Value} {t : Tb} {mr : Value} {most : Int} {v : Nat} {a b : Int} (hR : Rdc w d g q ev t mr most v) (hM : Ms w mr a b 0 0) (hm : t.made ≤ 1000000) (ha : 0 ≤ a ∧ a ≤ 1000000000) (ht : t.turn ≤ 1000000) (hv : v ≤ 1000000000) :
    Calls Tryz.prog 16 #[.pointer (some ⟨d, 0, none⟩)] w fun e w' => e = .returned (.tuple #[]) ∧ ∃ q' ev', Rcd w d g q ev mr (fun _ => False) (a + 1) b most (v + 1) t.clear w' q' ev' := by
  have k2 : w.cell? ⟨d, 2, none⟩ = some (.pointer (some ⟨g, 0, none⟩)) := hR.hd.c 2 (by omega)
  have C1 := rclear_s hR.rt hM hm ha ht
  have e1 : IntKind.i64.wrap ((v : Int) + 1) = (v : Int) + 1 := i64_small (by omega) (by omega)
  have HR := Lib.hid hR
  have HM := Lib.hid hM
  clear hR hM
  go_enter Tryz.func16, Tryz.ntmps16
  go_wp2_with fail
  refine C1.mono ?_
  rintro e w1 ⟨rfl, q', hq, hR1, hM1, hx1⟩
  clear C1 k2
  have ld := HR.out.lt d (.inl rfl)
  have hd1 : Blk w1 d 3 (rdF most v g) := HR.out.hd.same (hx1.block d ld (fun y => y.elim (fun e => HR.out.ne (.inl e)) HR.out.nm))
  have hne1 : ¬ (d = g ∨ d = q' ∨ (Value.slice none 0 0).ownBlock = some d) := fun h => by
    rcases h with h | h | h
    · exact HR.out.ne (.inl h)
    · omega
    · cases h
  have hR1' : Rdc w1 d g q' (.slice none 0 0) t.clear mr most v := ⟨hd1, hR1, hne1, HR.out.nm⟩
  have hfx1 : ∀ k, rX d g q' (.slice none 0 0) k → rX d g q ev k ∨ w.heap.size ≤ k := fun k hk => by
    rcases hk with h | h | h | h
    · exact .inl (.inl h)
    · exact .inl (.inr (.inl h))
    · exact .inr (by omega)
    · cases h
  have b1 : w1.cell? ⟨d, 1, none⟩ = some (.int .i64 (v : Int)) := hd1.c 1 (by omega)
  have bz := hd1.z 1
  have HF : Hid (Rcd w d g q ev mr (fun _ => False) (a + 1) b most (v + 1) t.clear (w1.setCell ⟨d, 1, none⟩ (.int .i64 ((v : Int) + 1))) q' (.slice none 0 0)) := ⟨hR1'.bump, hM1.same fun k hk => Below.heap_setCell _ _ _ _ (fun (e : k = d) => HR.out.nm (e ▸ hk)), hfx1, (hx1.mono (fun k _ h => h.elim (fun e => .inl (.inr (.inl e))) (fun y => .inr (.inl y)))).setCell (p := ⟨d, 1, none⟩) (fun _ => .inl (.inl rfl)) _⟩
  clear hd1 hR1' hR1 hM1 hx1 hne1 hfx1
  go_wp2_with fail
  go_end0
  exact ⟨rfl, _, _, HF.out⟩
end Go.Proofs.YtejfmajbggmghaaGreat
namespace Go.Proofs.YtejfmajbggmghaaGreat
open Go.RowKit Go.WideShapes

theorem eqDn (w : World) : (binOp .eql 24 (.pointer none) (.pointer none)).run Tryz.prog w = .ok (.bool true) w := by kernel_rfl
theorem eqMn (w : World) : (binOp .eql 40 (.pointer none) (.pointer none)).run Tryz.prog w = .ok (.bool true) w := by kernel_rfl
theorem kept_nil (w : World) : Calls Tryz.prog 36 #[.pointer none] w fun e w' => e = .returned (.pointer none) ∧ w' = w := by
  have h1 := eqDn
  go_enter Tryz.func36, Tryz.ntmps36
  go_wp2
  go_ret
  exact ⟨rfl, rfl⟩
theorem maNone_nil (w : World) : Calls Tryz.prog 27 #[.pointer none] w fun e w' => e = .returned (.bool true) ∧ w' = w := by
  have h1 := eqMn
  go_enter Tryz.func27, Tryz.ntmps27
  go_wp2
  go_ret
  exact ⟨rfl, rfl⟩
theorem tell_nil (c : Bool) (w : World) : Calls Tryz.prog 34 #[.pointer none, .bool c] w fun e w' => e = .returned (.int .i64 1) ∧ w' = w := by
  have C1 := maNone_nil w
  go_enter Tryz.func34, Tryz.ntmps34
  go_wp2_with fail
  refine C1.mono ?_
  rintro e w1 ⟨rfl, h⟩
  rw [h]
  go_wp2
  go_ret
  exact ⟨rfl, rfl⟩
theorem pclear_nil (w : World) : Calls Tryz.prog 15 #[.pointer none] w fun e w' => e = .returned (.tuple #[]) ∧ w' = w := by
  have h1 := eqDn
  go_enter Tryz.func15, Tryz.ntmps15
  go_wp2
  refine bodyPost_ret (v := .tuple #[]) (by simp [results, Tryz.results15, go_sem]) rfl ?_
  exact ⟨rfl, rfl⟩
set_option maxRecDepth 100000 in
theorem step_nil (w : World) : Calls Tryz.prog 10 #[.pointer none] w fun e w' => e = .returned (tuV Tu.zero) ∧ Below w.heap.size w w' := by
  have C1 := maNone_nil
  unfold tuV Tu.zero
  obtain ⟨w1, hw1⟩ : ∃ y, w.alloc (.cells #[.int .i64 0, .int .i64 0, .bool false, .int .i64 0, .int .i64 0] 45) = y := ⟨_, rfl⟩
  obtain ⟨hX1, hB1, hs1⟩ := tu_zero_blk w hw1
  have q0 : w1.cell? ⟨w.heap.size, 0, none⟩ = some (.int .i64 0) := hX1.c 0 (by omega)
  have q1 : w1.cell? ⟨w.heap.size, 1, none⟩ = some (.int .i64 0) := hX1.c 1 (by omega)
  have q2 : w1.cell? ⟨w.heap.size, 2, none⟩ = some (.bool false) := hX1.c 2 (by omega)
  have q3 : w1.cell? ⟨w.heap.size, 3, none⟩ = some (.int .i64 0) := hX1.c 3 (by omega)
  have q4 : w1.cell? ⟨w.heap.size, 4, none⟩ = some (.int .i64 0) := hX1.c 4 (by omega)
  have z0 := hX1.z 0
  have z1 := hX1.z 1
  have z2 := hX1.z 2
  have z3 := hX1.z 3
  have z4 := hX1.z 4
  have HW1 := Lib.hid hw1
  have HR9 : Hid (Blk (putU w1 w.heap.size Tu.zero) w.heap.size 5 _) := put5_blk hX1 _ _ _ _ _
  have HF9 : Hid (Below w.heap.size w (putU w1 w.heap.size Tu.zero)) := hB1.trans (putU_below _ (Nat.le_refl _) _)
  clear hX1 hB1 hs1 hw1
  unfold putU put5 Tu.zero at HR9 HF9
  go_enter Tryz.func10, Tryz.ntmps10
  go_upto_region 1 with fail
  rw [HW1.out]
  go_wp2_with fail
  refine (C1 w1).mono ?_
  rintro e w2 ⟨rfl, h⟩
  rw [h]
  clear C1 h
  go_wp2_with fail
  generalize World.setCell (World.setCell (World.setCell (World.setCell (World.setCell w1 _ _) _ _) _ _) _ _) _ _ = wZ at *
  have o0 : wZ.cell? ⟨w.heap.size, 0, none⟩ = some (.int .i64 0) := HR9.out.c 0 (by omega)
  have o1 : wZ.cell? ⟨w.heap.size, 1, none⟩ = some (.int .i64 0) := HR9.out.c 1 (by omega)
  have o2 : wZ.cell? ⟨w.heap.size, 2, none⟩ = some (.bool false) := HR9.out.c 2 (by omega)
  have o3 : wZ.cell? ⟨w.heap.size, 3, none⟩ = some (.int .i64 0) := HR9.out.c 3 (by omega)
  have o4 : wZ.cell? ⟨w.heap.size, 4, none⟩ = some (.int .i64 0) := HR9.out.c 4 (by omega)
  refine bodyPost_ret (v := .agg #[.int .i64 0, .int .i64 0, .bool false, .int .i64 0, .int .i64 0]) ?_ rfl ⟨rfl, HF9.out⟩
  simp [results, Tryz.results10, go_sem, o0, o1, o2, o3, o4]
set_option maxRecDepth 100000 in
set_option maxHeartbeats 4000000 in
theorem rowOf_no (goal : Int) (hg : ¬ (1 ≤ goal ∧ goal ≤ 4)) (w : World) :
    Calls Tryz.prog 21 #[.int .i64 goal] w fun e w' => e = .returned (.tuple #[.agg #[.int .i64 0, .nilFunc, .nilFunc], .bool false]) ∧ Below w.heap.size w w' := by
  obtain ⟨w2, hw2⟩ : ∃ y, (w.alloc (.cells #[.int .i64 0, .nilFunc, .nilFunc] 70)).alloc (.cells #[.int .i64 1, hitV 1, missV 1, .int .i64 2, hitV 2, missV 2, .int .i64 3, hitV 3, missV 3, .int .i64 4, hitV 4, missV 4] 70) = y := ⟨_, rfl⟩
  obtain ⟨hR, hB, hb2⟩ := rows_new w hw2
  have lR := hR.lt (by omega)
  have lB := hB.lt (by omega)
  have HR := Lib.hid hR
  have HB := Lib.hid hB
  have HB2 := Lib.hid hb2
  have HW2 : Hid ((w.alloc (.cells #[.int .i64 0, .nilFunc, .nilFunc] 70)).alloc (.cells #[.int .i64 1, .func (.func 47) #[] #[], .func (.func 48) #[] #[], .int .i64 2, .func (.func 49) #[] #[], .func (.func 50) #[] #[], .int .i64 3, .func (.func 51) #[] #[], .func (.func 48) #[] #[], .int .i64 4, .func (.func 47) #[] #[], .func (.func 50) #[] #[]] 70) = w2) := hw2
  clear hR hB hb2 hw2
  go_enter Tryz.func21, Tryz.ntmps21
  go_wp2_with fail
  rw [HW2.out]
  go_loopw [14, 6] (fun iv _ wr => ∃ k : Nat, k ≤ 4 ∧ iv = .int .i64 (k : Int) ∧ Below w2.heap.size w2 wr) (fun iv _ _ => 4 - (intOf iv).toNat)
  case atStart => exact ⟨0, by omega, rfl, Below.refl _ _⟩
  case round =>
    obtain ⟨k, hk, rfl, hbk⟩ := hrel
    by_cases hk4 : k < 4
    · have t1 : (k : Int) < 4 := by omega
      obtain ⟨e0, e1, e2⟩ := rowsF_at k hk4
      have hBk := HB.out.of hbk (by omega)
      have c0 : wr.cell? ⟨w.heap.size + 1, k * 3, none⟩ = some (.int .i64 ((k : Int) + 1)) := by rw [hBk.c _ (by omega), e0]
      have c1 : wr.cell? ⟨w.heap.size + 1, k * 3 + 1, none⟩ = some (hitV (k + 1)) := by rw [hBk.c _ (by omega), e1]
      have c2 : wr.cell? ⟨w.heap.size + 1, k * 3 + 2, none⟩ = some (missV (k + 1)) := by rw [hBk.c _ (by omega), e2]
      clear e0 e1 e2 hBk
      obtain ⟨fh, hfh⟩ : ∃ x, hitV (k + 1) = Value.func (.func x) #[] #[] := ⟨_, rfl⟩
      obtain ⟨fm, hfm⟩ : ∃ x, missV (k + 1) = Value.func (.func x) #[] #[] := ⟨_, rfl⟩
      rw [hfh] at c1
      rw [hfm] at c2
      have tq : ((k : Int) + 1 == goal) = false := by rw [beq_eq_false_iff_ne]; omega
      have HBN : Hid (∀ o, Below w2.heap.size w2 (wr.alloc o)) := fun o => hbk.alloc hbk.size o
      clear hbk hg
      go_wp2_with fail
      go_roundw
      case rel => exact ⟨k + 1, by omega, by go_num, HBN.out _⟩
      case measure => simp [intOf]; omega
    · obtain rfl : k = 4 := by omega
      have hR3 := HR.out.of hbk (by omega)
      have q0 : wr.cell? ⟨w.heap.size, 0, none⟩ = some (.int .i64 0) := hR3.c 0 (by omega)
      have q1 : wr.cell? ⟨w.heap.size, 1, none⟩ = some .nilFunc := hR3.c 1 (by omega)
      have q2 : wr.cell? ⟨w.heap.size, 2, none⟩ = some .nilFunc := hR3.c 2 (by omega)
      have z0 := hR3.z 0
      have z1 := hR3.z 1
      have z2 := hR3.z 2
      have HF := Lib.hid (((hR3.put 0 (.int .i64 0)).put 1 .nilFunc).put 2 .nilFunc)
      have HBB : Hid (Below w.heap.size w (((wr.setCell ⟨w.heap.size, 0, none⟩ (.int .i64 0)).setCell ⟨w.heap.size, 1, none⟩ .nilFunc).setCell ⟨w.heap.size, 2, none⟩ .nilFunc)) := by
        have h1 := HB2.out.trans (hbk.mono HB2.out.size)
        exact ((h1.setCell (p := ⟨w.heap.size, 0, none⟩) (Nat.le_refl _) _).setCell (p := ⟨w.heap.size, 1, none⟩) (Nat.le_refl _) _).setCell (p := ⟨w.heap.size, 2, none⟩) (Nat.le_refl _) _
      clear hR3 hbk
      go_wp2_with fail
      generalize World.setCell (World.setCell (World.setCell wr _ _) _ _) _ _ = w4 at *
      have o0 : w4.cell? ⟨w.heap.size, 0, none⟩ = some (.int .i64 0) := HF.out.c 0 (by omega)
      have o1 : w4.cell? ⟨w.heap.size, 1, none⟩ = some .nilFunc := HF.out.c 1 (by omega)
      have o2 : w4.cell? ⟨w.heap.size, 2, none⟩ = some .nilFunc := HF.out.c 2 (by omega)
      refine bodyPost_ret (v := .tuple #[.agg #[.int .i64 0, .nilFunc, .nilFunc], .bool false]) ?_ rfl ⟨rfl, HBB.out⟩
      simp [results, Tryz.results21, go_sem, o0, o1, o2]
end Go.Proofs.YtejfmajbggmghaaGreat
namespace Go.Proofs.YtejfmajbggmghaaGreat
open Go.RowKit Go.WideShapes

theorem Tb.live_clear (t : Tb) : t.clear.live = 0 := rfl
set_option maxRecDepth 100000 in
set_option maxHeartbeats 4000000 in
theorem clear7_any {w : World} {g gi r h : Nat} {ev : Value} {t : Tb} {mv : Value} {M : Int → Int → World → Prop} {a b : Int} (hD : Dt w g gi r h ev t mv) (hMo : MtOk mv M) (hM : M a b w) (hm : t.made ≤ 1000000) (ha : 0 ≤ a ∧ a ≤ 1000000000) (ht : t.turn ≤ 1000000) :
    Calls Tryz.prog 37 #[.pointer (some ⟨g, 0, none⟩)] w fun e w' => e = .returned (.tuple #[]) ∧ ∃ gi' r' h' ev', Ad w g gi r h ev mv M (a + 1) b t.clear w' gi' r' h' ev' := by
  have k1 : w.cell? ⟨g, 1, none⟩ = some (.pointer (some ⟨gi, 0, none⟩)) := hD.hd.c 1 (by omega)
  have CR := ready_yes k1
  have k2 : w.cell? ⟨g, 2, none⟩ = some ev := hD.hd.c 2 (by omega)
  have k3 : w.cell? ⟨g, 3, none⟩ = some (.int .i64 (t.live : Int)) := hD.hd.c 3 (by omega)
  have k6 : w.cell? ⟨g, 6, none⟩ = some (.int .i64 (t.turn : Int)) := hD.hd.c 6 (by omega)
  have z2 := hD.hd.z 2
  have z3 := hD.hd.z 3
  have z6 := hD.hd.z 6
  have e6 : IntKind.i64.wrap ((t.turn : Int) + 1) = (t.turn : Int) + 1 := i64_small (by omega) (by omega)
  have lg := hD.hd.lt (by omega)
  obtain ⟨w2, hw2⟩ : ∃ y, ((w.setCell ⟨g, 2, none⟩ (.slice none 0 0)).setCell ⟨g, 3, none⟩ (.int .i64 0)).setCell ⟨g, 6, none⟩ (.int .i64 ((t.turn : Int) + 1)) = y := ⟨_, rfl⟩
  have hB2 : Blk w2 g 7 (fun x => if x = 6 then .int .i64 ((t.turn : Int) + 1) else if x = 3 then .int .i64 0 else if x = 2 then .slice none 0 0 else dF mv gi ev t x) := by rw [← hw2]; exact ((hD.hd.put 2 _).put 3 _).put 6 _
  have hX2 : Ex (fun j => dX g gi r h ev j ∨ mB mv j) w w2 := by rw [← hw2]; exact (((Ex.refl _ w).setCell (p := ⟨g, 2, none⟩) (fun _ => .inl (.inl rfl)) _).setCell (p := ⟨g, 3, none⟩) (fun _ => .inl (.inl rfl)) _).setCell (p := ⟨g, 6, none⟩) (fun _ => .inl (.inl rfl)) _
  have hM2 : M a b w2 := hMo.same a b w _ hM fun k hk => by
    have := (hD.mp k hk).1
    rw [← hw2, Below.heap_setCell _ _ _ _ this, Below.heap_setCell _ _ _ _ this, Below.heap_setCell _ _ _ _ this]
  have C1 := makeIndex_any (L := 3) (made := t.made) (es := []) ⟨rfl, by decide, by decide⟩ hB2 rfl rfl rfl (Es.nil w2) hMo hM2 (fun k hk => by cases hk) (fun k hk => (hD.mp k hk).1) (fun n hn => by simp at hn) (by simp) hm ha (by simp)
  have hlm := hMo.lt a b w
  have HM := Lib.hid hM
  have HMP := Lib.hid hD.mp
  have HX2 := Lib.hid hX2
  have HW2 := Lib.hid hw2
  clear hD hMo hM hB2 hM2 hX2 hw2
  go_enter Tryz.func37, Tryz.ntmps37
  go_wp2_with fail
  refine CR.mono ?_
  rintro e w1 ⟨rfl, rfl⟩
  clear CR
  go_wp2_with fail
  rw [HW2.out]
  refine C1.mono ?_
  rintro e w3 ⟨rfl, gi', r', h', hgi, hr, hh, hI⟩
  have hs2 : w1.heap.size ≤ w2.heap.size := HX2.out.size
  have HD : Hid (Ad w1 g gi r h ev mv M (a + 1) b t.clear w3 gi' r' h' (.slice none 0 0)) := by
    refine ⟨⟨hI.hd.congr (fun j hj => ?_), hI.row, hI.cl, (fun k hk => by cases hk), ⟨by omega, by omega, by omega⟩, fun k hk => ?_⟩, hI.m, fun j hj => ?_, HX2.out.next hI.ex (fun k hk h => h.elim (fun e => .inl (.inl e)) .inr)⟩
    · have : j = 0 ∨ j = 1 ∨ j = 2 ∨ j = 3 ∨ j = 4 ∨ j = 5 ∨ j = 6 := by omega
      rcases this with rfl | rfl | rfl | rfl | rfl | rfl | rfl
      · rfl
      · rfl
      · rfl
      · rfl
      · rfl
      · show Value.int .i64 (((t.made + 1 : Nat)) : Int) = Value.int .i64 ((t.made : Int) + 1)
        rw [Int.natCast_add]
        rfl
      · show Value.int .i64 (((t.turn + 1 : Nat)) : Int) = Value.int .i64 ((t.turn : Int) + 1)
        rw [Int.natCast_add]
        rfl
    · have := hlm k HM.out hk
      exact ⟨(HMP.out k hk).1, by omega, by omega, by omega, by simp [Value.ownBlock]⟩
    · rcases hj with rfl | rfl | rfl | rfl | hj
      · exact .inl (.inl rfl)
      · exact .inr (by omega)
      · exact .inr (by omega)
      · exact .inr (by omega)
      · cases hj
  clear C1 hI
  go_wp2
  go_end0
  exact ⟨rfl, gi', r', h', _, HD.out⟩
end Go.Proofs.YtejfmajbggmghaaGreat
namespace Go.Proofs.YtejfmajbggmghaaGreat

theorem liveL_liveL (es : List En) : liveL (liveL es) = liveL es := by
  induction es with
  | nil => rfl
  | cons e r ih =>
    by_cases h : e.live = true
    · rw [liveL, if_pos h, liveL, if_pos h, ih]
    · rw [liveL, if_neg h, ih]
theorem split_nth {es : List En} {n : Nat} (h : n < es.length) : es = es.take n ++ nth es n :: es.drop (n + 1) := by
  have : nth es n = es[n] := by unfold nth; rw [List.getD_eq_getElem?_getD, List.getElem?_eq_getElem h, Option.getD_some]
  rw [this, ← List.drop_eq_getElem_cons h, List.take_append_drop]
theorem liveL_set {es : List En} {n : Nat} (h : n < es.length) (z : En) (hz : z.live = false) : liveL (es.set n z) = liveL (es.take n) ++ liveL (es.drop (n + 1)) := by
  rw [List.set_eq_take_append_cons_drop, if_pos h, liveL_app, liveL, if_neg (by rw [hz]; decide)]
theorem liveL_cut {es : List En} {n : Nat} (h : n < es.length) (hl : (nth es n).live = true) : liveL es = liveL (es.take n) ++ nth es n :: liveL (es.drop (n + 1)) := by
  conv => lhs; rw [split_nth h]
  rw [liveL_app, liveL, if_pos hl]
theorem nth_mid (A B : List En) (x : En) : nth (A ++ x :: B) A.length = x := by
  unfold nth
  simp
theorem nth_index {es : List En} {e : En} (h : e ∈ es) : ∃ n, n < es.length ∧ nth es n = e := by
  obtain ⟨n, hn, he⟩ := List.getElem_of_mem h
  exact ⟨n, hn, by unfold nth; rw [List.getD_eq_getElem?_getD, List.getElem?_eq_getElem hn, Option.getD_some, he]⟩
theorem mem_liveL {es : List En} {e : En} (h : e ∈ liveL es) : e ∈ es := by
  induction es with
  | nil => simp [liveL] at h
  | cons x r ih =>
    rw [liveL] at h
    by_cases hx : x.live = true
    · rw [if_pos hx] at h
      rcases List.mem_cons.1 h with rfl | h
      · exact List.mem_cons_self ..
      · exact List.mem_cons_of_mem _ (ih h)
    · rw [if_neg hx] at h
      exact List.mem_cons_of_mem _ (ih h)
/-- A table that holds ws, behind i adds. -/
structure Ld (t : Tb) (ws : List En) (i : Nat) : Prop where
  ok : t.Ok
  eq : liveL t.es = ws
  bi : t.births = i
  lo : ∀ a, a < ws.length → 0 ≤ (nth ws a).birth ∧ (nth ws a).birth < (i : Int)
  up : ∀ a b, a < b → b < ws.length → (nth ws a).birth < (nth ws b).birth
  md : t.made ≤ i + 1
  tu : t.turn ≤ 2 * i
theorem Ld.live {t : Tb} {ws : List En} {i : Nat} (h : Ld t ws i) (a : Nat) (ha : a < ws.length) : (nth ws a).live = true := by
  have := h.eq
  subst this
  exact liveL_nth _ _ ha
theorem Ld.len {t : Tb} {ws : List En} {i : Nat} (h : Ld t ws i) : ws.length ≤ i := by
  have h1 := liveL_len t.es
  have h2 := h.ok.few
  have h3 := h.bi
  rw [h.eq] at h1
  omega
theorem Ld.new {t : Tb} (h1 : t = ⟨[], 3, fun _ => -1, 0, 1, 0⟩) : Ld t [] 0 := by
  subst h1
  exact ⟨⟨Inv.nil 3, by show 3 ≤ 3 ∧ 3 ≤ 20; omega, Nat.le_refl _, by show 0 ≤ 100000; omega⟩, rfl, rfl, fun a ha => absurd ha (Nat.not_lt_zero _), fun a b _ hb => absurd hb (Nat.not_lt_zero _), by show 1 ≤ 0 + 1; omega, Nat.le_refl _⟩
theorem Tb.add_es (t : Tb) (u k v : Int) : liveL (t.add u k v).es = liveL t.es ++ [⟨true, u, k, v, (t.births : Int)⟩] := by
  unfold Tb.add
  by_cases h : t.es.length < rm (2 ^ t.L)
  · rw [if_pos h]
    show liveL (t.es ++ [_]) = _
    rw [liveL_app]
    rfl
  · rw [if_neg h]
    show liveL (liveL t.es ++ [_]) = _
    rw [liveL_app, liveL_liveL]
    rfl
theorem Tb.add_last (t : Tb) (u k v : Int) : (t.add u k v).es ≠ [] ∧ nth (t.add u k v).es ((t.add u k v).es.length - 1) = ⟨true, u, k, v, (t.births : Int)⟩ := by
  unfold Tb.add
  by_cases h : t.es.length < rm (2 ^ t.L)
  · rw [if_pos h]
    refine ⟨by show t.es ++ [_] ≠ []; simp, ?_⟩
    show nth (t.es ++ [_]) ((t.es ++ [_]).length - 1) = _
    rw [List.length_append]
    exact nth_app_eq _ _
  · rw [if_neg h]
    refine ⟨by show liveL t.es ++ [_] ≠ []; simp, ?_⟩
    show nth (liveL t.es ++ [_]) ((liveL t.es ++ [_]).length - 1) = _
    rw [List.length_append]
    exact nth_app_eq _ _
theorem Tb.add_rest (t : Tb) (u k v : Int) : (t.add u k v).births = t.births + 1 ∧ (t.add u k v).made ≤ t.made + 1 ∧ t.made ≤ (t.add u k v).made ∧ (t.add u k v).turn = t.turn + 1 := by
  unfold Tb.add
  by_cases h : t.es.length < rm (2 ^ t.L)
  · rw [if_pos h]
    exact ⟨rfl, by show t.made ≤ t.made + 1; omega, Nat.le_refl _, rfl⟩
  · rw [if_neg h]
    exact ⟨rfl, Nat.le_refl _, by show t.made ≤ t.made + 1; omega, rfl⟩
theorem Ld.add {t : Tb} {ws : List En} {i : Nat} (h : Ld t ws i) (hi : i < 100000) (u k v : Int) : Ld (t.add u k v) (ws ++ [⟨true, u, k, v, (i : Int)⟩]) (i + 1) := by
  obtain ⟨r1, r2, _, r3⟩ := t.add_rest u k v
  have hb := h.bi
  have hm := h.md
  have ht := h.tu
  refine ⟨h.ok.add u k v (by omega), ?_, by omega, fun a ha => ?_, fun a b hab hbl => ?_, by omega, by omega⟩
  · rw [t.add_es, h.eq, hb]
  · rw [List.length_append] at ha
    rcases Nat.lt_or_ge a ws.length with z | z
    · rw [nth_app_lt z]
      have := h.lo a z
      omega
    · rw [show a = ws.length by simp at ha; omega, nth_app_eq]
      show 0 ≤ (i : Int) ∧ (i : Int) < _
      omega
  · rw [List.length_append] at hbl
    rcases Nat.lt_or_ge b ws.length with z | z
    · rw [nth_app_lt z, nth_app_lt (by omega)]
      exact h.up a b hab z
    · have hb' : b = ws.length := by simp at hbl; omega
      subst hb'
      rw [nth_app_eq, nth_app_lt hab]
      exact (h.lo a hab).2
/-- One of them is killed. -/
theorem Ld.kill {t : Tb} {ws : List En} {i : Nat} (h : Ld t ws i) {k : Nat} (hk : k < ws.length) : ∃ n, n < t.es.length ∧ nth t.es n = nth ws k ∧ (nth t.es n).live = true ∧ (∀ m, m < n → nth t.es m ≠ nth ws k) ∧ (t.turn + 1 ≤ 2 * i → Ld (t.kill n) (ws.take k ++ ws.drop (k + 1)) i) := by
  have hmem : nth ws k ∈ t.es := by
    have h1 := h.eq
    subst h1
    exact mem_liveL (nth_mem hk)
  obtain ⟨n0, hn0, hx0⟩ := nth_index hmem
  have key : ∃ n, n ≤ n0 ∧ nth t.es n = nth ws k ∧ ∀ m, m < n → nth t.es m ≠ nth ws k := least (P := fun n => nth t.es n = nth ws k) n0 hx0
  obtain ⟨n, hn, hx, hmin⟩ := key
  have hnl : n < t.es.length := by omega
  have hl : (nth t.es n).live = true := by rw [hx]; exact h.live k hk
  have hcut := liveL_cut hnl hl
  rw [h.eq] at hcut
  have hp : (liveL (t.es.take n)).length = k := by
    have hpl : (liveL (t.es.take n)).length < ws.length := by rw [hcut]; simp
    have hpx : nth ws (liveL (t.es.take n)).length = nth ws k := by
      conv => lhs; rw [hcut]
      rw [nth_mid, hx]
    rcases Nat.lt_trichotomy (liveL (t.es.take n)).length k with z | z | z
    · have := h.up _ _ z hk
      rw [hpx] at this
      omega
    · exact z
    · have := h.up _ _ z hpl
      rw [hpx] at this
      omega
  refine ⟨n, hnl, hx, hl, hmin, fun htu => ?_⟩
  have hA : ws.take k = liveL (t.es.take n) := by rw [hcut, ← hp]; simp
  have hB : ws.drop (k + 1) = liveL (t.es.drop (n + 1)) := by
    rw [hcut, ← hp, show (liveL (t.es.take n)).length + 1 = (liveL (t.es.take n) ++ [nth t.es n]).length by simp, show liveL (t.es.take n) ++ nth t.es n :: liveL (t.es.drop (n + 1)) = (liveL (t.es.take n) ++ [nth t.es n]) ++ liveL (t.es.drop (n + 1)) by simp, List.drop_left]
  have hget : ∀ a, a < (ws.take k ++ ws.drop (k + 1)).length → nth (ws.take k ++ ws.drop (k + 1)) a = nth ws (if a < k then a else a + 1) ∧ (if a < k then a else a + 1) < ws.length := by
    intro a ha
    have hlk : (ws.take k).length = k := by rw [List.length_take]; omega
    rw [List.length_append, hlk, List.length_drop] at ha
    unfold nth
    rw [List.getD_eq_getElem?_getD, List.getD_eq_getElem?_getD]
    by_cases e : a < k
    · rw [if_pos e, List.getElem?_append_left (by omega), List.getElem?_take, if_pos e]
      exact ⟨rfl, by omega⟩
    · rw [if_neg e, List.getElem?_append_right (by omega), hlk, List.getElem?_drop, show k + 1 + (a - k) = a + 1 by omega]
      exact ⟨rfl, by omega⟩
  refine ⟨h.ok.kill n hnl hl, ?_, h.bi, fun a ha => ?_, fun a b hab hb => ?_, h.md, htu⟩
  · show liveL (t.es.set n (En.gone (nth t.es n).birth)) = _
    rw [liveL_set hnl _ rfl, hA, hB]
  · obtain ⟨h1, h2⟩ := hget a ha
    rw [h1]
    exact h.lo _ h2
  · obtain ⟨h1, h2⟩ := hget a (by omega)
    obtain ⟨h3, h4⟩ := hget b hb
    rw [h1, h3]
    refine h.up _ _ ?_ h4
    by_cases e : b < k
    · rw [if_pos (by omega), if_pos e]; exact hab
    · rw [if_neg e]
      split <;> omega
end Go.Proofs.YtejfmajbggmghaaGreat
namespace Go.Proofs.YtejfmajbggmghaaGreat
open Go.RowKit Go.WideShapes

theorem Tryz.infoN : (Tryz.prog.info? 3).map (fun i => (i.zero, i.size, i.bytes)) = some (some (.int .i64 0), 1, 8) := by kernel_rfl
/-- Ints in a row of their own, from block B on. -/
def IntsR (B : Nat) (w : World) (v : Value) (l : List Int) : Prop := w.ownsRow B 3 1 v l.length (l.map fun x : Int => Value.int .i64 x)
theorem IntsR.nil (B : Nat) (w : World) : IntsR B w (.slice none 0 0) [] := ⟨rfl, Or.inl ⟨rfl, rfl⟩⟩
theorem intsR_snoc {B : Nat} {w1 : World} {v' : Value} {l : List Int} {d : Int} (h : w1.ownsRow B 3 1 v' (l.length + 1) ((l.map fun x : Int => Value.int .i64 x) ++ [Value.int .i64 d])) : IntsR B w1 v' (l ++ [d]) := by
  unfold IntsR
  simpa using h
theorem newR_one (w : World) (x : Value) (t : TypeId) : ∀ j u, [x][j]? = some u → (w.alloc (.cells #[x] t)).cell? (Addr.add ⟨w.heap.size, 0, none⟩ j) = some u := by
  intro j u hj
  match j, hj with
  | 0, hj => rw [WideShapes.add_plain, World.cell?_alloc_at _ _ _ _ rfl]; simpa using hj
  | j + 1, hj => simp at hj
theorem belowR_grown {B n : Nat} {w wr w1 : World} {v : Value} {xs : List Value} {o : Obj} {t : TypeId} (hb : Below B w wr) (hB : B ≤ w.heap.size) (hown : wr.ownsRow B t 1 v n xs) (hg : (wr.alloc o).grownBy w1 v.ownBlock) : Below B w w1 := by
  refine (hb.alloc (Nat.le_trans hB hb.size) o).grown hg (by simp; have := hb.size; omega) (fun k e => ?_)
  rcases hown.2 with ⟨rfl, _⟩ | ⟨g, cap, cur, rfl, h1, _⟩
  · cases e
  · simp [Value.ownBlock] at e
    omega
/-- A row of one's own, laid open as a block. -/
theorem IntsR.open {B : Nat} {w : World} {v : Value} {l : List Int} (h : IntsR B w v l) : ∃ a cap g, v = .slice a l.length cap ∧ l.length ≤ cap ∧ (0 < l.length → a = some ⟨g, 0, none⟩ ∧ g < w.heap.size ∧ B ≤ g ∧ Blk w g l.length (fun j => .int .i64 (l[j]?.getD 0))) := by
  have h0 : w.ownsRow B 3 1 v l.length (l.map fun x : Int => Value.int .i64 x) := h
  rcases h0.2 with ⟨rfl, h1⟩ | ⟨g, cap, cur, rfl, hg, hh, hc, _⟩
  · obtain rfl : l = [] := List.eq_nil_of_length_eq_zero h1
    exact ⟨none, 0, 0, rfl, Nat.le_refl _, fun h => absurd h (by simp)⟩
  · refine ⟨_, cap, g, rfl, hc, fun _ => ⟨rfl, (Array.getElem?_eq_some_iff.1 hh).1, hg, fun j hj => ?_, fun j => h0.frozenAt j⟩⟩
    rw [h0.cellAt j (by simpa using hj)]
    simp [hj]
end Go.Proofs.YtejfmajbggmghaaGreat
namespace Go.Proofs.YtejfmajbggmghaaGreat
open Go.RowKit Go.WideShapes

/-- The numbers of the live ones of the first i entries. -/
def lvn (es : List En) : Nat → List Int
  | 0 => []
  | i + 1 => lvn es i ++ if (nth es i).live = true then [(i : Int)] else []
theorem lvn_len (es : List En) : ∀ i, i ≤ es.length → (lvn es i).length = (liveL (es.take i)).length
  | 0, _ => by simp [lvn, liveL]
  | i + 1, h => by
    rw [lvn, List.length_append, lvn_len es i (by omega), liveL_take h]
    by_cases hl : (nth es i).live = true
    · simp [hl]
    · simp [hl]
theorem lvn_all (es : List En) : (lvn es es.length).length = (liveL es).length := by
  rw [lvn_len es _ (Nat.le_refl _), List.take_length]
theorem lvn_le (es : List En) : ∀ {i j : Nat}, i ≤ j → ∃ r, lvn es j = lvn es i ++ r := by
  intro i j h
  induction j with
  | zero => exact ⟨[], by rw [show i = 0 by omega]; simp⟩
  | succ j ih =>
    rcases Nat.lt_or_ge i (j + 1) with y | y
    · obtain ⟨r, hr⟩ := ih (by omega)
      exact ⟨r ++ _, by rw [lvn, hr, List.append_assoc]⟩
    · exact ⟨[], by rw [show i = j + 1 by omega]; simp⟩
theorem lvn_at (es : List En) {i j : Nat} (hij : i < j) (hl : (nth es i).live = true) : (lvn es j)[(lvn es i).length]? = some (i : Int) ∧ (lvn es i).length < (lvn es j).length ∧ (lvn es (i + 1)).length = (lvn es i).length + 1 := by
  obtain ⟨r, hr⟩ := lvn_le es (i := i + 1) (j := j) hij
  have h1 : lvn es (i + 1) = lvn es i ++ [(i : Int)] := by rw [lvn, if_pos hl]
  rw [h1, List.append_assoc] at hr
  rw [hr, h1]
  simp
theorem lvn_dead (es : List En) {i : Nat} (hl : (nth es i).live = false) : lvn es (i + 1) = lvn es i := by
  rw [lvn, hl]
  simp
theorem live_at {es : List En} {i : Nat} (hi : i < es.length) (hl : (nth es i).live = true) : nth (liveL es) (lvn es i).length = nth es i := by
  rw [lvn_len es i (by omega), liveL_cut hi hl]
  exact nth_mid _ _ _
set_option maxRecDepth 100000 in
set_option maxHeartbeats 4000000 in
theorem rlive0 {w : World} {g : Nat} {ev : Value} {es : List En} (h0 : w.cell? ⟨g, 0, none⟩ = some ev) (hE0 : Es w ev es) (hn : es.length ≤ 100000) :
    Calls Tryz.prog 41 #[.pointer (some ⟨g, 0, none⟩)] w fun e w' => ∃ v, e = .returned v ∧ EsB w.heap.size w' v (liveL es) ∧ Below w.heap.size w w' := by
  obtain ⟨i0, hi, hz0, hz1, hz2⟩ := info_parts Tryz.infoEn
  obtain ⟨ae, cape, ge, ev1, hpe, hro⟩ := hE0.open
  have hcape := hro.le
  have HRO : Hid (0 < es.length → ae = some ⟨ge, 0, none⟩ ∧ ge < w.heap.size ∧ Ro w ge es.length cape es) := fun h0 => ⟨(hpe h0).1, hE0.lt ge (hpe h0).2.1, hro⟩
  have lg := lt_of_cell h0
  subst ev1
  have H0 := Lib.hid h0
  clear h0 hE0 hro hpe
  go_enter Tryz.func41, Tryz.ntmps41
  go_wp2_with fail
  go_loopw [3, 4] (fun lv iv wr => ∃ k : Nat, k ≤ es.length ∧ iv = .int .i64 (k : Int) ∧ EsB w.heap.size wr lv (liveL (es.take k)) ∧ Below w.heap.size w wr) (fun _ iv _ => es.length - (intOf iv).toNat)
  case atStart => exact ⟨0, Nat.zero_le _, rfl, ⟨rfl, Or.inl ⟨rfl, rfl⟩⟩, Below.refl _ _⟩
  case round =>
    obtain ⟨k, hk, rfl, hE, hB⟩ := hrel
    have f0 : wr.cell? ⟨g, 0, none⟩ = some (.slice ae es.length cape) := (hB.cell (p := ⟨g, 0, none⟩) lg).trans H0.out
    by_cases hlt : k < es.length
    · have t1 : (k : Int) < (es.length : Int) := by omega
      obtain ⟨ea, lge, hro⟩ := HRO.out (by omega)
      subst ea
      have key : ∀ o, wr.cell? ⟨ge, o, none⟩ = w.cell? ⟨ge, o, none⟩ := fun o => hB.cell (p := ⟨ge, o, none⟩) lge
      have d0 := (key _).trans (hro.c0 k hlt)
      have d1 := (key _).trans (hro.c1 k hlt)
      have d2 := (key _).trans (hro.c2 k hlt)
      have d3 := (key _).trans (hro.c3 k hlt)
      have d4 := (key _).trans (hro.c4 k hlt)
      have HTK := Lib.hid (liveL_take hlt)
      clear hro key
      cases hlive : (nth es k).live with
      | true =>
        have hown : wr.ownsRow w.heap.size 48 5 u3 (liveL (es.take k)).length (enl (liveL (es.take k))) := hE
        have hlk : (liveL (es.take k)).length ≤ k := by have := liveL_len (es.take k); rw [List.length_take] at this; omega
        have FIN : Hid (∀ (v' : Value) (w5 : World), w5.ownsRow w.heap.size 48 5 v' ((liveL (es.take k)).length + 1) (enl (liveL (es.take k)) ++ enc5 (nth es k)) → EsB w.heap.size w5 v' (liveL (es.take (k + 1)))) := fun v' w5 h5 => by
          rw [HTK.out, if_pos hlive]
          exact EsB.snoc h5
        have NF : Hid (∀ j u, (enc5 (nth es k))[j]? = some u → (wr.alloc (.cells #[.bool (nth es k).live, .int .i64 (nth es k).hash, .int .i64 (nth es k).key, .int .i64 (nth es k).value, .int .i64 (nth es k).birth] 48)).cell? (Addr.add ⟨wr.heap.size, 0, none⟩ j) = some u) := new_five _ _ _
        have HE5 : Hid ((enc5 (nth es k)).length = 5 ∧ ∀ u ∈ enc5 (nth es k), u.oneCell' = true) := ⟨rfl, fun u hu => enl_one [nth es k] u (by simpa [enl] using hu)⟩
        have HRL : Hid ((enl (liveL (es.take k))).length = (liveL (es.take k)).length * 5) := enl_len _
        rw [hlive] at d0 NF
        have hsz := hB.size
        clear hE
        generalize enc5 (nth es k) = E5 at FIN NF HE5
        generalize enl (liveL (es.take k)) = R at hown FIN HRL
        generalize (liveL (es.take k)).length = m at hown FIN hlk HRL
        generalize (nth es k).hash = x1 at *
        generalize (nth es k).key = x2 at *
        generalize (nth es k).value = x3 at *
        generalize (nth es k).birth = x4 at *
        clear hlive HTK
        go_wp2_with (at_builtin; refine wpList_append_own _ rfl _ _ 84 rfl w.heap.size 48 i0 (.agg #[.bool false, .int .i64 0, .int .i64 0, .int .i64 0, .int .i64 0]) 5 40 Tryz.underlying84 hi hz0 hz1 hz2 rfl (by decide) _ _ _ rfl (World.ownsRow.alloc hown _) ⟨wr.heap.size, 0, none⟩ 1 1 E5 rfl HE5.out.1 NF.out HE5.out.2 (by unfold maxLen; omega) (by omega) (by simp; omega) ?_; intro v' w5 hown2 hgrow _; have hI2 := Lib.hid (FIN.out v' w5 hown2); have hb5 := below_grown5 hB (Nat.le_refl _) hown hgrow; clear hgrow hown2)
        go_roundw
        case rel => exact ⟨k + 1, by omega, by go_num, hI2.out, hb5⟩
        case measure => simp [intOf]; omega
      | false =>
        rw [hlive] at d0
        have HE : Hid (EsB w.heap.size wr u3 (liveL (es.take (k + 1)))) := by
          show EsB _ _ _ _
          rw [HTK.out, if_neg (by rw [hlive]; simp)]
          exact hE
        clear hE hlive HTK
        go_wp2_with fail
        go_roundw
        case rel => exact ⟨k + 1, by omega, by go_num, HE.out, hB⟩
        case measure => simp [intOf]; omega
    · have t1 : ¬ (k : Int) < (es.length : Int) := by omega
      obtain rfl : k = es.length := by omega
      rw [List.take_length] at hE
      go_wp2
      go_ret
      exact ⟨_, rfl, hE, hB⟩
set_option maxRecDepth 100000 in
set_option maxHeartbeats 4000000 in
theorem rnumbers0 {w : World} {g : Nat} {ev : Value} {es : List En} (h0 : w.cell? ⟨g, 0, none⟩ = some ev) (hE0 : Es w ev es) (hn : es.length ≤ 100000) :
    Calls Tryz.prog 45 #[.pointer (some ⟨g, 0, none⟩)] w fun e w' => ∃ v, e = .returned v ∧ IntsR w.heap.size w' v (lvn es es.length) ∧ Below w.heap.size w w' := by
  obtain ⟨i0, hi, hz0, hz1, hz2⟩ := info_parts Tryz.infoN
  obtain ⟨ae, cape, ge, ev1, hpe, hro⟩ := hE0.open
  have hcape := hro.le
  have HRO : Hid (0 < es.length → ae = some ⟨ge, 0, none⟩ ∧ ge < w.heap.size ∧ Ro w ge es.length cape es) := fun h0 => ⟨(hpe h0).1, hE0.lt ge (hpe h0).2.1, hro⟩
  have lg := lt_of_cell h0
  subst ev1
  have H0 := Lib.hid h0
  clear h0 hE0 hro hpe
  go_enter Tryz.func45, Tryz.ntmps45
  go_wp2_with fail
  go_loopw [3, 4] (fun lv iv wr => ∃ k : Nat, k ≤ es.length ∧ iv = .int .i64 (k : Int) ∧ IntsR w.heap.size wr lv (lvn es k) ∧ Below w.heap.size w wr) (fun _ iv _ => es.length - (intOf iv).toNat)
  case atStart => exact ⟨0, Nat.zero_le _, rfl, IntsR.nil _ _, Below.refl _ _⟩
  case round =>
    obtain ⟨k, hk, rfl, hE, hB⟩ := hrel
    have f0 : wr.cell? ⟨g, 0, none⟩ = some (.slice ae es.length cape) := (hB.cell (p := ⟨g, 0, none⟩) lg).trans H0.out
    by_cases hlt : k < es.length
    · have t1 : (k : Int) < (es.length : Int) := by omega
      obtain ⟨ea, lge, hro⟩ := HRO.out (by omega)
      subst ea
      have d0 := (hB.cell (p := ⟨ge, k * 5, none⟩) lge).trans (hro.c0 k hlt)
      clear hro
      cases hlive : (nth es k).live with
      | true =>
        have hown : wr.ownsRow w.heap.size 3 1 u3 (lvn es k).length ((lvn es k).map fun x : Int => Value.int .i64 x) := hE
        have hlk : (lvn es k).length ≤ k := by
          have h1 := lvn_len es k (by omega)
          have := liveL_len (es.take k)
          rw [List.length_take] at this
          omega
        have HS : Hid (lvn es (k + 1) = lvn es k ++ [(k : Int)]) := by
          show _ = _
          rw [lvn, hlive]
          simp
        rw [hlive] at d0
        have hsz := hB.size
        clear hE hlive
        go_wp2_with (at_builtin; refine wpList_append_own _ rfl _ _ 87 rfl w.heap.size 3 i0 (.int .i64 0) 1 8 Tryz.underlying87 hi hz0 hz1 hz2 rfl (by decide) _ _ _ rfl (World.ownsRow.alloc hown _) ⟨wr.heap.size, 0, none⟩ 1 1 [.int .i64 (k : Int)] rfl rfl (newR_one _ _ _) (fun u hu => by simp at hu; subst hu; rfl) (by unfold maxLen; omega) (by omega) (by simp; omega) ?_; intro v' w5 hown2 hgrow _; have hI2 := Lib.hid (intsR_snoc hown2); have hb5 := belowR_grown hB (Nat.le_refl _) hown hgrow; clear hgrow hown2)
        go_roundw
        case rel => exact ⟨k + 1, by omega, by go_num, by rw [HS.out]; exact hI2.out, hb5⟩
        case measure => simp [intOf]; omega
      | false =>
        rw [hlive] at d0
        have HE : Hid (IntsR w.heap.size wr u3 (lvn es (k + 1))) := by
          show IntsR _ _ _ _
          rw [lvn_dead es hlive]
          exact hE
        clear hE hlive
        go_wp2_with fail
        go_roundw
        case rel => exact ⟨k + 1, by omega, by go_num, HE.out, hB⟩
        case measure => simp [intOf]; omega
    · have t1 : ¬ (k : Int) < (es.length : Int) := by omega
      obtain rfl : k = es.length := by omega
      go_wp2
      go_ret
      exact ⟨_, rfl, hE, hB⟩
end Go.Proofs.YtejfmajbggmghaaGreat
