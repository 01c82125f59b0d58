/-
  The document's machine: Step.
-/
import Derived.Test.YtejfmajbggmghaaGreatGk
import Derived.BigQuiet
namespace Go.Proofs.YtejfmajbggmghaaGreat
open Go.RowKit Go.WideShapes

set_option maxRecDepth 100000 in
set_option maxHeartbeats 4000000 in
/-- A machine that waits, or has ended, tells its turn again. -/
theorem rstep_wait {w : World} {y d : Nat} {sv : Value} {m : Ma} {z : Rz} (hm : Rm w y sv d m z) (hk : z.over = true ∨ z.over = false ∧ z.waits = true) :
    Calls Tryz.prog 33 #[.pointer (some ⟨y, 0, none⟩)] w fun e w' => e = .returned (tuV z.u) ∧ Below w.heap.size w w' := by
  obtain ⟨w1, hw1⟩ : ∃ V, w.alloc (.cells #[.int .i64 0, .int .i64 0, .bool false, .int .i64 0, .int .i64 0] 45) = V := ⟨_, rfl⟩
  obtain ⟨hX1, hB1, hs1⟩ := tu_zero_blk w hw1
  have hm2 : Rm w1 y sv d m z := hm.of hB1 (by omega)
  have k8 : w1.cell? ⟨y, 8, none⟩ = some (.bool z.waits) := hm2.c 8 (by omega)
  have k10 : w1.cell? ⟨y, 10, none⟩ = some (.bool z.over) := hm2.c 10 (by omega)
  have k11 : w1.cell? ⟨y, 11, none⟩ = some (.int .i64 z.u.kind) := hm2.c 11 (by omega)
  have k12 : w1.cell? ⟨y, 12, none⟩ = some (.int .i64 z.u.key) := hm2.c 12 (by omega)
  have k13 : w1.cell? ⟨y, 13, none⟩ = some (.bool z.u.found) := hm2.c 13 (by omega)
  have k14 : w1.cell? ⟨y, 14, none⟩ = some (.int .i64 z.u.value) := hm2.c 14 (by omega)
  have k15 : w1.cell? ⟨y, 15, none⟩ = some (.int .i64 z.u.entry) := hm2.c 15 (by omega)
  have q0 : w1.cell? ⟨w.heap.size, 0, none⟩ = some (.int .i64 0) := hX1.c 0 (by omega)
  have q1 : w1.cell? ⟨w.heap.size, 1, none⟩ = some (.int .i64 0) := hX1.c 1 (by omega)
  have q2 : w1.cell? ⟨w.heap.size, 2, none⟩ = some (.bool false) := hX1.c 2 (by omega)
  have q3 : w1.cell? ⟨w.heap.size, 3, none⟩ = some (.int .i64 0) := hX1.c 3 (by omega)
  have q4 : w1.cell? ⟨w.heap.size, 4, none⟩ = some (.int .i64 0) := hX1.c 4 (by omega)
  have z0 := hX1.z 0
  have z1 := hX1.z 1
  have z2 := hX1.z 2
  have z3 := hX1.z 3
  have z4 := hX1.z 4
  have HR9 : Hid (Blk (putU w1 w.heap.size z.u) w.heap.size 5 _) := put5_blk hX1 _ _ _ _ _
  have HF9 : Hid (Below w.heap.size w (putU w1 w.heap.size z.u)) := hB1.trans (putU_below _ (Nat.le_refl _) _)
  have HW1 := Lib.hid hw1
  clear hm hm2 hX1 hB1 hs1 hw1
  unfold putU put5 at HR9 HF9
  unfold tuV
  generalize z.waits = zw at *
  generalize z.over = zo at *
  rcases hk with hk | ⟨hk, hk2⟩
  case' inr => subst hk2
  all_goals
    subst hk
    go_enter Tryz.func33, Tryz.ntmps33
    go_upto_region 1 with fail
    rw [HW1.out]
    go_wp2_with fail
    generalize World.setCell (World.setCell (World.setCell (World.setCell (World.setCell w1 _ _) _ _) _ _) _ _) _ _ = wZ at *
    have o0 : wZ.cell? ⟨w.heap.size, 0, none⟩ = some (.int .i64 z.u.kind) := HR9.out.c 0 (by omega)
    have o1 : wZ.cell? ⟨w.heap.size, 1, none⟩ = some (.int .i64 z.u.key) := HR9.out.c 1 (by omega)
    have o2 : wZ.cell? ⟨w.heap.size, 2, none⟩ = some (.bool z.u.found) := HR9.out.c 2 (by omega)
    have o3 : wZ.cell? ⟨w.heap.size, 3, none⟩ = some (.int .i64 z.u.value) := HR9.out.c 3 (by omega)
    have o4 : wZ.cell? ⟨w.heap.size, 4, none⟩ = some (.int .i64 z.u.entry) := HR9.out.c 4 (by omega)
    refine bodyPost_ret (v := .agg #[.int .i64 z.u.kind, .int .i64 z.u.key, .bool z.u.found, .int .i64 z.u.value, .int .i64 z.u.entry]) ?_ rfl ⟨rfl, HF9.out⟩
    simp [results, Tryz.results33, go_sem, o0, o1, o2, o3, o4]
set_option maxRecDepth 100000 in
set_option maxHeartbeats 8000000 in
theorem rstep_next {w : World} {d g q : Nat} {ev : Value} {t : Tb} {pr : Option Addr} {most : Int} {v : Nat} {a b : Int} (hR : Rdc w d g q ev t (.pointer pr) most v) (hM : Ms w (.pointer pr) a b 0 0) (hO : t.Ok) (hm1 : t.made ≤ 1000000) (ha : 0 ≤ a ∧ a ≤ 1000000000) (hb : 0 ≤ b ∧ b ≤ 100000000000) (ht : t.turn ≤ 1000000) (hbi : t.births < 100000) (hv : v ≤ 1000000000) {y : Nat} {sv : Value} {m : Ma} {z : Rz} (hm : Rm w y sv d m z) (hov : z.over = false) (hwt : z.waits = false) (hg : 1 ≤ m.goal ∧ m.goal ≤ 4) (hsc : m.scans ≤ 1000000) (ny : ¬ rX d g q ev y) (nmy : ¬ mB (.pointer pr) y) (hsv : ∀ k, mB sv k → k < w.heap.size)
    (hW : sv = .pointer none ∨ (∃ s0, sv = .pointer (some ⟨s0, 0, none⟩)) ∧ m.ver ≠ v ∨ m.ver = v ∧ z.same = false ∧ ∃ s i told f, sv = .pointer (some ⟨s, 0, none⟩) ∧ S2 w s g t m.hash i told ∧ Told t.es t.L t.c m.hash i told ∧ IsF t.c (uw m.hash) t.L f ∧ i ≤ f ∧ f < 2 ^ t.L + 13 ∧ -1 ≤ told ∧ ¬ rX d g q ev s ∧ ¬ mB (.pointer pr) s ∧ s ≠ y) :
    Calls Tryz.prog 33 #[.pointer (some ⟨y, 0, none⟩)] w fun e w' => ∃ u s i told f sc zs, e = .returned (tuV u) ∧
      StR w g t sv v m s i told f sc ∧
      RsR w d g q ev t (.pointer pr) y sv a b most v { m with ver := v, scans := sc } { z with same := zs } s i told f u w' := by
  obtain ⟨w1, hw1⟩ : ∃ V, w.alloc (.cells #[.int .i64 0, .int .i64 0, .bool false, .int .i64 0, .int .i64 0] 45) = V := ⟨_, rfl⟩
  obtain ⟨hX1, hB1, hs1⟩ := tu_zero_blk w hw1
  have hm2 : Rm w1 y sv d m z := hm.of hB1 (by omega)
  have ly := hm.lt (by omega)
  have hR1 := hR.below hB1
  have k0 : w1.cell? ⟨y, 0, none⟩ = some (.pointer (some ⟨d, 0, none⟩)) := hm2.c 0 (by omega)
  have k2 : w1.cell? ⟨y, 2, none⟩ = some (.int .i64 m.hash) := hm2.c 2 (by omega)
  have k5 : w1.cell? ⟨y, 5, none⟩ = some sv := hm2.c 5 (by omega)
  have k6 : w1.cell? ⟨y, 6, none⟩ = some (.int .i64 (m.ver : Int)) := hm2.c 6 (by omega)
  have k8 : w1.cell? ⟨y, 8, none⟩ = some (.bool false) := by rw [← hwt]; exact hm2.c 8 (by omega)
  have k10 : w1.cell? ⟨y, 10, none⟩ = some (.bool false) := by rw [← hov]; exact hm2.c 10 (by omega)
  have x1 : w1.cell? ⟨d, 1, none⟩ = some (.int .i64 (v : Int)) := hR1.hd.c 1 (by omega)
  have x2 : w1.cell? ⟨d, 2, none⟩ = some (.pointer (some ⟨g, 0, none⟩)) := hR1.hd.c 2 (by omega)
  have hyR : w.heap.size ≠ y := by omega
  have hyd : y ≠ d := fun e => ny (.inl e)
  have eqn := eqRSn
  have eqs := eqRS
  have HR := Lib.hid hR
  have HR1 := Lib.hid hR1
  have HM := Lib.hid hM
  have HM1 := Lib.hid (hM.below hB1)
  have HMX := Lib.hid hm2
  have HB1 := Lib.hid hB1
  have HX1 := Lib.hid hX1
  have HW1 := Lib.hid hw1
  have HS1 := Lib.hid hs1
  have HO := Lib.hid hO
  have HWay := Lib.hid hW
  have HOV : Hid (z.over = false ∧ z.waits = false) := ⟨hov, hwt⟩
  have HBD : Hid ((t.made ≤ 1000000 ∧ (0 ≤ a ∧ a ≤ 1000000000) ∧ t.turn ≤ 1000000 ∧ t.births < 100000) ∧ (0 ≤ b ∧ b ≤ 100000000000) ∧ v ≤ 1000000000 ∧ 1 ≤ m.goal ∧ m.goal ≤ 4) := ⟨⟨hm1, ha, ht, hbi⟩, hb, hv, hg⟩
  have HSV := Lib.hid hsv
  have HMS := Lib.hid (show Rm w y sv d m z from hm)
  clear hR hM hm hm2 hB1 hX1 hw1 hs1 hR1 hO hm1 ha ht hb hbi hv hg hW hov hwt hsv
  unfold tuV
  go_enter Tryz.func33, Tryz.ntmps33
  go_upto_region 1 with fail
  rw [HW1.out]
  go_upto_region 3 with fail
  rcases HWay.out with hsv0 | ⟨⟨s0, hsv0⟩, hev⟩ | ⟨hev, hsame, s, i, told, f, hsv2, hS, htd, hff, hle, hlt, hge, hnc, hnm, hns⟩
  case' inl =>
    clear HWay
    have hbeg : sv = .pointer none ∨ m.ver ≠ v := .inl hsv0
    rw [hsv0] at k5
    clear hsv0
    have HBEG : Hid (sv = .pointer none ∨ m.ver ≠ v) := hbeg
    clear hbeg
    go_quiet (fail)
    have HRq : Hid (Rdc (w1.drewN nq) d g q ev t (.pointer pr) most v) := HR1.out.same fun _ _ => rfl
    have HMq : Hid (Ms (w1.drewN nq) (.pointer pr) a b 0 0) := HM1.out.same fun _ _ => rfl
    have HXq : Hid (Rm (w1.drewN nq) y sv d m z) := HMX.out.same rfl
    have HZq : Hid (Blk (w1.drewN nq) w.heap.size 5 (fun j => #[Value.int .i64 0, .int .i64 0, .bool false, .int .i64 0, .int .i64 0].getD j .nilFunc)) := HX1.out.same rfl
    have HBq : Hid (Below w.heap.size w (w1.drewN nq)) := ⟨HB1.out.os, HB1.out.tape, HB1.out.output, HB1.out.size, HB1.out.block⟩
    have hsq : (w1.drewN nq).heap.size = w.heap.size + 1 := HS1.out
    clear k0 k2 k5 k6 k8 k10 x1 x2 eqn eqs
    generalize w1.drewN nq = wq at *
    have k0 : wq.drew.cell? ⟨y, 0, none⟩ = some (.pointer (some ⟨d, 0, none⟩)) := HXq.out.c 0 (by omega)
    have k2 : wq.drew.cell? ⟨y, 2, none⟩ = some (.int .i64 m.hash) := HXq.out.c 2 (by omega)
    have x2 : wq.drew.cell? ⟨d, 2, none⟩ = some (.pointer (some ⟨g, 0, none⟩)) := HRq.out.hd.c 2 (by omega)
    have CS := rseek_s (w := wq.drew) (HRq.out.rt.same fun _ _ => rfl) m.hash
    have hlq : wq.drew.heap.size = w.heap.size + 1 := hsq
    go_upto_region 4 with fail
    go_region_held3 (fun V => V.cell? ⟨y, 0, none⟩ = some (.pointer (some ⟨d, 0, none⟩)) ∧ V.cell? ⟨y, 2, none⟩ = some (.int .i64 m.hash) ∧ V.cell? ⟨d, 2, none⟩ = some (.pointer (some ⟨g, 0, none⟩)))
      (first | with_reducible exact ⟨k0, k2, x2⟩ | with_reducible exact s1 | with_reducible exact s2 | fail)
      (first | (go_at_call 63; refine CS.mono ?_; rintro e w4 ⟨s, rfl, hs, hK, hb4⟩; have hm4 : Rm w4 y sv d m z := (show Rm wq.drew y sv d m z from HXq.out.same rfl).of hb4 (by omega); have hd4 : Blk w4 d 3 (rdF most v g) := (show Blk wq.drew d 3 (rdF most v g) from HRq.out.hd.same rfl).of hb4 (by omega); have s1 : w4.cell? ⟨y, 0, none⟩ = some (.pointer (some ⟨d, 0, none⟩)) ∧ w4.cell? ⟨y, 2, none⟩ = some (.int .i64 m.hash) ∧ w4.cell? ⟨d, 2, none⟩ = some (.pointer (some ⟨g, 0, none⟩)) := ⟨hm4.c 0 (by omega), hm4.c 2 (by omega), hd4.c 2 (by omega)⟩; have c5 : w4.cell? ⟨y, 5, none⟩ = some sv := hm4.c 5 (by omega); have z5 := hm4.z 5; have hm5 := hm4.put 5 (.pointer (some ⟨s, 0, none⟩)); have hd5 : Blk (w4.setCell ⟨y, 5, none⟩ (.pointer (some ⟨s, 0, none⟩))) d 3 (rdF most v g) := hd4.same (Below.heap_setCell _ _ _ _ (fun (e : d = y) => hyd e.symm)); have s2 : (w4.setCell ⟨y, 5, none⟩ (.pointer (some ⟨s, 0, none⟩))).cell? ⟨y, 0, none⟩ = some (.pointer (some ⟨d, 0, none⟩)) ∧ (w4.setCell ⟨y, 5, none⟩ (.pointer (some ⟨s, 0, none⟩))).cell? ⟨y, 2, none⟩ = some (.int .i64 m.hash) ∧ (w4.setCell ⟨y, 5, none⟩ (.pointer (some ⟨s, 0, none⟩))).cell? ⟨d, 2, none⟩ = some (.pointer (some ⟨g, 0, none⟩)) := ⟨hm5.c 0 (by omega), hm5.c 2 (by omega), hd5.c 2 (by omega)⟩) | fail)
    clear CS k0 k2 x2 s1 s2 c5 z5
    have hsy : s ≠ y := by omega
    have hsR : s ≠ w.heap.size := by omega
    have hB4 : Below w.heap.size w w4 := HBq.out.trans ((show Below wq.heap.size wq w4 from (Below.refl _ wq).drew.trans hb4).mono HBq.out.size)
    have hm5' : Rm (w4.setCell ⟨y, 5, none⟩ (.pointer (some ⟨s, 0, none⟩))) y (.pointer (some ⟨s, 0, none⟩)) d m z := hm5.congr fun j hj => by
      rcases lt17 hj with rfl | rfl | rfl | rfl | rfl | rfl | rfl | rfl | rfl | rfl | rfl | rfl | rfl | rfl | rfl | rfl | rfl <;> rfl
    have hR5 : Rdc (w4.setCell ⟨y, 5, none⟩ (.pointer (some ⟨s, 0, none⟩))) d g q ev t (.pointer pr) most v := (HR.out.below hB4).same fun k hk => Below.heap_setCell _ _ _ _ (fun (e : k = y) => ny (e ▸ hk))
    have hK5 : S2 (w4.setCell ⟨y, 5, none⟩ (.pointer (some ⟨s, 0, none⟩))) s g t m.hash 0 (-1) := Blk.same (show S2 w4 s g t m.hash 0 (-1) from hK.congr fun j hj => by
      have : j = 0 ∨ j = 1 ∨ j = 2 ∨ j = 3 ∨ j = 4 ∨ j = 5 ∨ j = 6 ∨ j = 7 := by omega
      rcases this with rfl | rfl | rfl | rfl | rfl | rfl | rfl | rfl
      all_goals first | rfl | (show Value.int .u64 ((uw m.hash / 32 ^ 0 : Nat) : Int) = Value.int .u64 ((uw m.hash : Nat) : Int); rw [Nat.pow_zero, Nat.div_one])) (Below.heap_setCell _ _ _ _ hsy)
    have hMM5 : Ms (w4.setCell ⟨y, 5, none⟩ (.pointer (some ⟨s, 0, none⟩))) (.pointer pr) a b 0 0 := (HM.out.below hB4).same fun k hk => Below.heap_setCell _ _ _ _ (fun (e : k = y) => nmy (e ▸ hk))
    have hZ5 : Blk (w4.setCell ⟨y, 5, none⟩ (.pointer (some ⟨s, 0, none⟩))) w.heap.size 5 (fun j => #[Value.int .i64 0, .int .i64 0, .bool false, .int .i64 0, .int .i64 0].getD j .nilFunc) := ((show Blk wq.drew w.heap.size 5 _ from HZq.out.same rfl).of hb4 (by omega)).same (Below.heap_setCell _ _ _ _ hyR)
    have hE5 : Ex (fun k => k = y) w (w4.setCell ⟨y, 5, none⟩ (.pointer (some ⟨s, 0, none⟩))) := (show Ex (fun k => k = y) w w4 from ex_of hB4).setCell (p := ⟨y, 5, none⟩) (fun _ => rfl) _
    have hs5 : w.heap.size < (w4.setCell ⟨y, 5, none⟩ (.pointer (some ⟨s, 0, none⟩))).heap.size := by
      have h1 := hE5.size
      have h2 := hZ5.lt (by omega)
      exact h2
    have HSS : Hid (w.heap.size ≤ s) := by show w.heap.size ≤ s; omega
    clear hm4 hd4 hm5 hd5 hK hb4 hB4 hs hlq hsq
    generalize w4.setCell ⟨y, 5, none⟩ (.pointer (some ⟨s, 0, none⟩)) = w5 at *
    have k0 : w5.cell? ⟨y, 0, none⟩ = some (.pointer (some ⟨d, 0, none⟩)) := hm5'.c 0 (by omega)
    have k6 : w5.cell? ⟨y, 6, none⟩ = some (.int .i64 (m.ver : Int)) := hm5'.c 6 (by omega)
    have k9 : w5.cell? ⟨y, 9, none⟩ = some (.bool z.same) := hm5'.c 9 (by omega)
    have k16 : w5.cell? ⟨y, 16, none⟩ = some (.int .i64 (m.scans : Int)) := hm5'.c 16 (by omega)
    have x1 : w5.cell? ⟨d, 1, none⟩ = some (.int .i64 (v : Int)) := hR5.hd.c 1 (by omega)
    have z6 := hm5'.z 6
    have z9 := hm5'.z 9
    have z16 := hm5'.z 16
    have e16 : IntKind.i64.wrap ((m.scans : Int) + 1) = (m.scans : Int) + 1 := i64_small (by omega) (by omega)
    obtain ⟨wS, hwS⟩ : ∃ V, ((w5.setCell ⟨y, 6, none⟩ (.int .i64 (v : Int))).setCell ⟨y, 16, none⟩ (.int .i64 ((m.scans : Int) + 1))).setCell ⟨y, 9, none⟩ (.bool false) = V := ⟨_, rfl⟩
    have hyS : ∀ k, k ≠ y → wS.heap[k]? = w5.heap[k]? := fun k hk => by rw [← hwS, Below.heap_setCell _ _ _ _ hk, Below.heap_setCell _ _ _ _ hk, Below.heap_setCell _ _ _ _ hk]
    have hmS : Rm wS y (.pointer (some ⟨s, 0, none⟩)) d { m with ver := v, scans := m.scans + 1 } { z with same := false } := by
      rw [← hwS]
      refine (((hm5'.put 6 _).put 16 _).put 9 _).congr fun j hj => ?_
      rcases lt17 hj with rfl | rfl | rfl | rfl | rfl | rfl | rfl | rfl | rfl | rfl | rfl | rfl | rfl | rfl | rfl | rfl | rfl
      all_goals first | rfl | (show Value.int .i64 (((m.scans + 1 : Nat)) : Int) = Value.int .i64 ((m.scans : Int) + 1); rw [Int.natCast_add]; rfl)
    have hES : Ex (fun k => k = y) w wS := by rw [← hwS]; exact ((hE5.setCell (p := ⟨y, 6, none⟩) (fun _ => rfl) _).setCell (p := ⟨y, 16, none⟩) (fun _ => rfl) _).setCell (p := ⟨y, 9, none⟩) (fun _ => rfl) _
    have HRS : Hid (Blk wS w.heap.size 5 (fun j => #[Value.int .i64 0, .int .i64 0, .bool false, .int .i64 0, .int .i64 0].getD j .nilFunc)) := hZ5.same (hyS _ hyR)
    obtain ⟨f, hf1, hf2⟩ := HO.out.inv.first m.hash
    have HA : Hid (Ra w d g q ev t (.pointer pr) most v a b y sv { m with ver := v, scans := m.scans + 1 } { z with same := false } s 0 (-1) f wS) := ⟨hR5.same fun k hk => hyS k (fun e => ny (e ▸ hk)), hMM5.same fun k hk => hyS k (fun e => nmy (e ▸ hk)), hmS, Blk.same hK5 (hyS s hsy), told_zero _ _ _ _, hf2, Nat.zero_le _, hf1, Int.le_refl _, fun hk => by have := HR.out.lt s hk; have := HSS.out; omega, fun hk => by have := HM.out.lt s hk; have := HSS.out; omega, hsy, hsR, .inr HSS.out, rfl, hES, HRS.out.lt (by omega)⟩
    have HST : Hid (StR w g t sv v m s 0 (-1) f (m.scans + 1)) := .inl ⟨HBEG.out, rfl, rfl, rfl, HSS.out, hf1, hf2⟩
    have HWS := Lib.hid hwS
    clear hm5' hR5 hK5 hMM5 hZ5 hE5 hs5 hwS hyS hmS hES hf1 hf2 hsy hsR
    go_upto_region 8 with fail
    have HWE := HWS.out
    rw [HWE]
    clear HWE k0 k6 k9 k16 x1 z6 z9 z16 e16
    obtain ⟨i, told, sc, zs, HA, HST⟩ : ∃ i told sc zs, Hid (Ra w d g q ev t (.pointer pr) most v a b y sv { m with ver := v, scans := sc } { z with same := zs } s i told f wS) ∧ Hid (StR w g t sv v m s i told f sc) := ⟨_, _, _, _, HA, HST⟩
  case' inr.inl =>
    clear HWay
    have hbeg : sv = .pointer none ∨ m.ver ≠ v := .inr hev
    have t1 : ((v : Int) != (m.ver : Int)) = true := by rw [bne_iff_ne]; omega
    rw [hsv0] at k5
    have hs0 := eqs s0
    clear hsv0 hev
    have HBEG : Hid (sv = .pointer none ∨ m.ver ≠ v) := hbeg
    clear hbeg
    go_quiet (fail)
    have HRq : Hid (Rdc (w1.drewN nq) d g q ev t (.pointer pr) most v) := HR1.out.same fun _ _ => rfl
    have HMq : Hid (Ms (w1.drewN nq) (.pointer pr) a b 0 0) := HM1.out.same fun _ _ => rfl
    have HXq : Hid (Rm (w1.drewN nq) y sv d m z) := HMX.out.same rfl
    have HZq : Hid (Blk (w1.drewN nq) w.heap.size 5 (fun j => #[Value.int .i64 0, .int .i64 0, .bool false, .int .i64 0, .int .i64 0].getD j .nilFunc)) := HX1.out.same rfl
    have HBq : Hid (Below w.heap.size w (w1.drewN nq)) := ⟨HB1.out.os, HB1.out.tape, HB1.out.output, HB1.out.size, HB1.out.block⟩
    have hsq : (w1.drewN nq).heap.size = w.heap.size + 1 := HS1.out
    clear k0 k2 k5 k6 k8 k10 x1 x2 eqn eqs
    generalize w1.drewN nq = wq at *
    have k0 : wq.drew.cell? ⟨y, 0, none⟩ = some (.pointer (some ⟨d, 0, none⟩)) := HXq.out.c 0 (by omega)
    have k2 : wq.drew.cell? ⟨y, 2, none⟩ = some (.int .i64 m.hash) := HXq.out.c 2 (by omega)
    have x2 : wq.drew.cell? ⟨d, 2, none⟩ = some (.pointer (some ⟨g, 0, none⟩)) := HRq.out.hd.c 2 (by omega)
    have CS := rseek_s (w := wq.drew) (HRq.out.rt.same fun _ _ => rfl) m.hash
    have hlq : wq.drew.heap.size = w.heap.size + 1 := hsq
    go_upto_region 4 with fail
    go_region_held3 (fun V => V.cell? ⟨y, 0, none⟩ = some (.pointer (some ⟨d, 0, none⟩)) ∧ V.cell? ⟨y, 2, none⟩ = some (.int .i64 m.hash) ∧ V.cell? ⟨d, 2, none⟩ = some (.pointer (some ⟨g, 0, none⟩)))
      (first | with_reducible exact ⟨k0, k2, x2⟩ | with_reducible exact s1 | with_reducible exact s2 | fail)
      (first | (go_at_call 63; refine CS.mono ?_; rintro e w4 ⟨s, rfl, hs, hK, hb4⟩; have hm4 : Rm w4 y sv d m z := (show Rm wq.drew y sv d m z from HXq.out.same rfl).of hb4 (by omega); have hd4 : Blk w4 d 3 (rdF most v g) := (show Blk wq.drew d 3 (rdF most v g) from HRq.out.hd.same rfl).of hb4 (by omega); have s1 : w4.cell? ⟨y, 0, none⟩ = some (.pointer (some ⟨d, 0, none⟩)) ∧ w4.cell? ⟨y, 2, none⟩ = some (.int .i64 m.hash) ∧ w4.cell? ⟨d, 2, none⟩ = some (.pointer (some ⟨g, 0, none⟩)) := ⟨hm4.c 0 (by omega), hm4.c 2 (by omega), hd4.c 2 (by omega)⟩; have c5 : w4.cell? ⟨y, 5, none⟩ = some sv := hm4.c 5 (by omega); have z5 := hm4.z 5; have hm5 := hm4.put 5 (.pointer (some ⟨s, 0, none⟩)); have hd5 : Blk (w4.setCell ⟨y, 5, none⟩ (.pointer (some ⟨s, 0, none⟩))) d 3 (rdF most v g) := hd4.same (Below.heap_setCell _ _ _ _ (fun (e : d = y) => hyd e.symm)); have s2 : (w4.setCell ⟨y, 5, none⟩ (.pointer (some ⟨s, 0, none⟩))).cell? ⟨y, 0, none⟩ = some (.pointer (some ⟨d, 0, none⟩)) ∧ (w4.setCell ⟨y, 5, none⟩ (.pointer (some ⟨s, 0, none⟩))).cell? ⟨y, 2, none⟩ = some (.int .i64 m.hash) ∧ (w4.setCell ⟨y, 5, none⟩ (.pointer (some ⟨s, 0, none⟩))).cell? ⟨d, 2, none⟩ = some (.pointer (some ⟨g, 0, none⟩)) := ⟨hm5.c 0 (by omega), hm5.c 2 (by omega), hd5.c 2 (by omega)⟩) | fail)
    clear CS k0 k2 x2 s1 s2 c5 z5
    have hsy : s ≠ y := by omega
    have hsR : s ≠ w.heap.size := by omega
    have hB4 : Below w.heap.size w w4 := HBq.out.trans ((show Below wq.heap.size wq w4 from (Below.refl _ wq).drew.trans hb4).mono HBq.out.size)
    have hm5' : Rm (w4.setCell ⟨y, 5, none⟩ (.pointer (some ⟨s, 0, none⟩))) y (.pointer (some ⟨s, 0, none⟩)) d m z := hm5.congr fun j hj => by
      rcases lt17 hj with rfl | rfl | rfl | rfl | rfl | rfl | rfl | rfl | rfl | rfl | rfl | rfl | rfl | rfl | rfl | rfl | rfl <;> rfl
    have hR5 : Rdc (w4.setCell ⟨y, 5, none⟩ (.pointer (some ⟨s, 0, none⟩))) d g q ev t (.pointer pr) most v := (HR.out.below hB4).same fun k hk => Below.heap_setCell _ _ _ _ (fun (e : k = y) => ny (e ▸ hk))
    have hK5 : S2 (w4.setCell ⟨y, 5, none⟩ (.pointer (some ⟨s, 0, none⟩))) s g t m.hash 0 (-1) := Blk.same (show S2 w4 s g t m.hash 0 (-1) from hK.congr fun j hj => by
      have : j = 0 ∨ j = 1 ∨ j = 2 ∨ j = 3 ∨ j = 4 ∨ j = 5 ∨ j = 6 ∨ j = 7 := by omega
      rcases this with rfl | rfl | rfl | rfl | rfl | rfl | rfl | rfl
      all_goals first | rfl | (show Value.int .u64 ((uw m.hash / 32 ^ 0 : Nat) : Int) = Value.int .u64 ((uw m.hash : Nat) : Int); rw [Nat.pow_zero, Nat.div_one])) (Below.heap_setCell _ _ _ _ hsy)
    have hMM5 : Ms (w4.setCell ⟨y, 5, none⟩ (.pointer (some ⟨s, 0, none⟩))) (.pointer pr) a b 0 0 := (HM.out.below hB4).same fun k hk => Below.heap_setCell _ _ _ _ (fun (e : k = y) => nmy (e ▸ hk))
    have hZ5 : Blk (w4.setCell ⟨y, 5, none⟩ (.pointer (some ⟨s, 0, none⟩))) w.heap.size 5 (fun j => #[Value.int .i64 0, .int .i64 0, .bool false, .int .i64 0, .int .i64 0].getD j .nilFunc) := ((show Blk wq.drew w.heap.size 5 _ from HZq.out.same rfl).of hb4 (by omega)).same (Below.heap_setCell _ _ _ _ hyR)
    have hE5 : Ex (fun k => k = y) w (w4.setCell ⟨y, 5, none⟩ (.pointer (some ⟨s, 0, none⟩))) := (show Ex (fun k => k = y) w w4 from ex_of hB4).setCell (p := ⟨y, 5, none⟩) (fun _ => rfl) _
    have hs5 : w.heap.size < (w4.setCell ⟨y, 5, none⟩ (.pointer (some ⟨s, 0, none⟩))).heap.size := by
      have h1 := hE5.size
      have h2 := hZ5.lt (by omega)
      exact h2
    have HSS : Hid (w.heap.size ≤ s) := by show w.heap.size ≤ s; omega
    clear hm4 hd4 hm5 hd5 hK hb4 hB4 hs hlq hsq
    generalize w4.setCell ⟨y, 5, none⟩ (.pointer (some ⟨s, 0, none⟩)) = w5 at *
    have k0 : w5.cell? ⟨y, 0, none⟩ = some (.pointer (some ⟨d, 0, none⟩)) := hm5'.c 0 (by omega)
    have k6 : w5.cell? ⟨y, 6, none⟩ = some (.int .i64 (m.ver : Int)) := hm5'.c 6 (by omega)
    have k9 : w5.cell? ⟨y, 9, none⟩ = some (.bool z.same) := hm5'.c 9 (by omega)
    have k16 : w5.cell? ⟨y, 16, none⟩ = some (.int .i64 (m.scans : Int)) := hm5'.c 16 (by omega)
    have x1 : w5.cell? ⟨d, 1, none⟩ = some (.int .i64 (v : Int)) := hR5.hd.c 1 (by omega)
    have z6 := hm5'.z 6
    have z9 := hm5'.z 9
    have z16 := hm5'.z 16
    have e16 : IntKind.i64.wrap ((m.scans : Int) + 1) = (m.scans : Int) + 1 := i64_small (by omega) (by omega)
    obtain ⟨wS, hwS⟩ : ∃ V, ((w5.setCell ⟨y, 6, none⟩ (.int .i64 (v : Int))).setCell ⟨y, 16, none⟩ (.int .i64 ((m.scans : Int) + 1))).setCell ⟨y, 9, none⟩ (.bool false) = V := ⟨_, rfl⟩
    have hyS : ∀ k, k ≠ y → wS.heap[k]? = w5.heap[k]? := fun k hk => by rw [← hwS, Below.heap_setCell _ _ _ _ hk, Below.heap_setCell _ _ _ _ hk, Below.heap_setCell _ _ _ _ hk]
    have hmS : Rm wS y (.pointer (some ⟨s, 0, none⟩)) d { m with ver := v, scans := m.scans + 1 } { z with same := false } := by
      rw [← hwS]
      refine (((hm5'.put 6 _).put 16 _).put 9 _).congr fun j hj => ?_
      rcases lt17 hj with rfl | rfl | rfl | rfl | rfl | rfl | rfl | rfl | rfl | rfl | rfl | rfl | rfl | rfl | rfl | rfl | rfl
      all_goals first | rfl | (show Value.int .i64 (((m.scans + 1 : Nat)) : Int) = Value.int .i64 ((m.scans : Int) + 1); rw [Int.natCast_add]; rfl)
    have hES : Ex (fun k => k = y) w wS := by rw [← hwS]; exact ((hE5.setCell (p := ⟨y, 6, none⟩) (fun _ => rfl) _).setCell (p := ⟨y, 16, none⟩) (fun _ => rfl) _).setCell (p := ⟨y, 9, none⟩) (fun _ => rfl) _
    have HRS : Hid (Blk wS w.heap.size 5 (fun j => #[Value.int .i64 0, .int .i64 0, .bool false, .int .i64 0, .int .i64 0].getD j .nilFunc)) := hZ5.same (hyS _ hyR)
    obtain ⟨f, hf1, hf2⟩ := HO.out.inv.first m.hash
    have HA : Hid (Ra w d g q ev t (.pointer pr) most v a b y sv { m with ver := v, scans := m.scans + 1 } { z with same := false } s 0 (-1) f wS) := ⟨hR5.same fun k hk => hyS k (fun e => ny (e ▸ hk)), hMM5.same fun k hk => hyS k (fun e => nmy (e ▸ hk)), hmS, Blk.same hK5 (hyS s hsy), told_zero _ _ _ _, hf2, Nat.zero_le _, hf1, Int.le_refl _, fun hk => by have := HR.out.lt s hk; have := HSS.out; omega, fun hk => by have := HM.out.lt s hk; have := HSS.out; omega, hsy, hsR, .inr HSS.out, rfl, hES, HRS.out.lt (by omega)⟩
    have HST : Hid (StR w g t sv v m s 0 (-1) f (m.scans + 1)) := .inl ⟨HBEG.out, rfl, rfl, rfl, HSS.out, hf1, hf2⟩
    have HWS := Lib.hid hwS
    clear hm5' hR5 hK5 hMM5 hZ5 hE5 hs5 hwS hyS hmS hES hf1 hf2 hsy hsR
    go_upto_region 8 with fail
    have HWE := HWS.out
    rw [HWE]
    clear HWE k0 k6 k9 k16 x1 z6 z9 z16 e16
    obtain ⟨i, told, sc, zs, HA, HST⟩ : ∃ i told sc zs, Hid (Ra w d g q ev t (.pointer pr) most v a b y sv { m with ver := v, scans := sc } { z with same := zs } s i told f wS) ∧ Hid (StR w g t sv v m s i told f sc) := ⟨_, _, _, _, HA, HST⟩
  case' inr.inr =>
    clear HWay
    have hbq : Hid (∀ n, Below w.heap.size w (w1.drewN n)) := fun n => ⟨HB1.out.os, HB1.out.tape, HB1.out.output, HB1.out.size, HB1.out.block⟩
    have ls := Blk.lt hS (by omega)
    have hsR : s ≠ w.heap.size := by omega
    have hmm : ({ m with ver := v, scans := m.scans } : Ma) = m := by cases m; simp at hev; subst hev; rfl
    have hzz : ({ z with same := false } : Rz) = z := by cases z; simp at hsame; subst hsame; rfl
    have HA0 : Hid (∀ n, Ra w d g q ev t (.pointer pr) most v a b y sv { m with ver := v, scans := m.scans } { z with same := false } s i told f (w1.drewN n)) := fun n => by
      rw [hmm, hzz]
      have hb := hbq.out n
      exact ⟨HR.out.below hb, HM.out.below hb, by rw [← hsv2]; exact HMS.out.of hb (by omega), Blk.same hS (hb.block s ls), htd, hff, hle, hlt, hge, hnc, hnm, hns, hsR, .inl hsv2, hsame, ex_of hb, by show w.heap.size < w1.heap.size; have := HS1.out; omega⟩
    have HRS0 : Hid (∀ n, Blk (w1.drewN n) w.heap.size 5 (fun j => #[Value.int .i64 0, .int .i64 0, .bool false, .int .i64 0, .int .i64 0].getD j .nilFunc)) := fun n => HX1.out.same rfl
    have HST0 : Hid (StR w g t sv v m s i told f m.scans) := .inr ⟨⟨by rw [hsv2]; simp, hev⟩, hsv2, rfl, hS, hff⟩
    have t1 : ((v : Int) != (m.ver : Int)) = false := by rw [hev]; simp
    rw [hsv2] at k5
    have hs0 := eqs s
    clear hev hsame hsv2 hS htd hff hle hlt hge hnc hnm hns hmm hzz ls hsR eqn eqs
    go_quiet (fail)
    have HA := Lib.hid (HA0.out nq)
    have HRS := Lib.hid (HRS0.out nq)
    clear k0 k2 k5 k6 k8 k10 x1 x2 t1 hs0 HA0 HRS0 hbq
    generalize w1.drewN nq = wS at *
    go_upto_region 8 with fail
    obtain ⟨sc, zs, HA, HST⟩ : ∃ sc zs, Hid (Ra w d g q ev t (.pointer pr) most v a b y sv { m with ver := v, scans := sc } { z with same := zs } s i told f wS) ∧ Hid (StR w g t sv v m s i told f sc) := ⟨_, _, HA, HST0⟩
    clear HST0
  all_goals
    have hzs : zs = false := HA.out.same
    have k5 : wS.cell? ⟨y, 5, none⟩ = some (.pointer (some ⟨s, 0, none⟩)) := HA.out.rm.c 5 (by omega)
    have k9 : wS.cell? ⟨y, 9, none⟩ = some (.bool false) := by rw [← hzs]; exact HA.out.rm.c 9 (by omega)
    clear hzs
    have CN := HA.out.next HM.out HO.out ly nmy HBD.out.2.1 HRS.out
    go_wp2_with fail
    refine CN.mono ?_
    rintro e w6 ⟨j, hij, hjf, hB, hV, hcs⟩
    clear CN
    rcases hcs with ⟨n, rfl, hof, htn, hleast, hS2⟩ | ⟨rfl, hjf2, hnone⟩
    case inr =>
      have CM := rmiss_any hB.dc hB.ms HO.out HBD.out.1.1 HBD.out.1.2.1 HBD.out.1.2.2.1 HBD.out.1.2.2.2 HBD.out.2.2.1 hB.rm HBD.out.2.2.2 ny nmy
      unfold tuV at CM
      have HBB := Lib.hid hB
      have HVV := Lib.hid hV
      have HNO : Hid (j = f ∧ ∀ n, Of t.es m.hash n → (n : Int) ≤ told) := ⟨hjf2, hnone⟩
      have HJ : Hid (i ≤ j ∧ j ≤ f) := ⟨hij, hjf⟩
      clear hB hV hjf2 hnone hij hjf k5 k9
      go_wp2_with fail
      refine CM.mono ?_
      rintro e w7 ⟨u, rfl, hMs, hm7⟩
      clear CM
      obtain ⟨_, _, _, _, _, hc⟩ := hMs.any
      have hRe : Blk w7 w.heap.size 5 _ := HBB.out.res.same (hc.ex.block _ HBB.out.big (fun h => by
        rcases h with h | h | h
        · have := HR.out.lt _ h; omega
        · have := HM.out.lt _ h; omega
        · exact hyR h))
      have hVs : V2 w7 s (j + 1) := HVV.out.same (hc.ex.block s HBB.out.ls (fun h => by
        rcases h with h | h | h
        · exact HA.out.nc h
        · exact HA.out.nm h
        · exact HA.out.ns h))
      clear hc
      have q0 : w7.cell? ⟨w.heap.size, 0, none⟩ = some (.int .i64 0) := hRe.c 0 (by omega)
      have q1 : w7.cell? ⟨w.heap.size, 1, none⟩ = some (.int .i64 0) := hRe.c 1 (by omega)
      have q2 : w7.cell? ⟨w.heap.size, 2, none⟩ = some (.bool false) := hRe.c 2 (by omega)
      have q3 : w7.cell? ⟨w.heap.size, 3, none⟩ = some (.int .i64 0) := hRe.c 3 (by omega)
      have q4 : w7.cell? ⟨w.heap.size, 4, none⟩ = some (.int .i64 0) := hRe.c 4 (by omega)
      have z0 := hRe.z 0
      have z1 := hRe.z 1
      have z2 := hRe.z 2
      have z3 := hRe.z 3
      have z4 := hRe.z 4
      obtain ⟨wZ, hwZ⟩ : ∃ V, (put5 w7 w.heap.size (.int .i64 u.kind) (.int .i64 u.key) (.bool u.found) (.int .i64 u.value) (.int .i64 u.entry)) = V := ⟨_, rfl⟩
      have hbz : ∀ k, k ≠ w.heap.size → wZ.heap[k]? = w7.heap[k]? := fun k hk => by rw [← hwZ]; exact putU_other w7 w.heap.size u k hk
      have hRz : Blk wZ w.heap.size 5 (fun j => [Value.int .i64 u.kind, .int .i64 u.key, .bool u.found, .int .i64 u.value, .int .i64 u.entry].getD j .nilFunc) := by rw [← hwZ]; exact put5_blk hRe _ _ _ _ _
      have HFIN : Hid (∃ u' s i told f sc zs, Ending.returned (Value.agg #[.int .i64 u.kind, .int .i64 u.key, .bool u.found, .int .i64 u.value, .int .i64 u.entry]) = .returned (Value.agg #[.int .i64 u'.kind, .int .i64 u'.key, .bool u'.found, .int .i64 u'.value, .int .i64 u'.entry]) ∧ StR w g t sv v m s i told f sc ∧ RsR w d g q ev t (.pointer pr) y sv a b most v { m with ver := v, scans := sc } { z with same := zs } s i told f u' wZ) := ⟨u, s, i, told, f, sc, zs, rfl, HST.out, j, HJ.out.1, HJ.out.2, .inr ⟨HNO.out.1, HNO.out.2, hMs.mono (fun _ _ _ ⟨q', ev', c⟩ => ⟨q', ev', by rw [← hwZ]; exact Rcd.up HR.out.lt HM.out.lt HBB.out.ex HBB.out.big c u, fun hk => (c.fx s hk).elim (fun y => HA.out.nc y) (fun y => by have := HBB.out.ls; omega)⟩), hm7.same (hbz y hyR.symm), hVs.same (hbz s HA.out.nr)⟩⟩
      clear hMs hm7 hVs
      have HR9 := Lib.hid hRz
      have HWZ := Lib.hid hwZ
      unfold put5 at HWZ
      clear hwZ hRz hbz hRe
      go_wp2_with fail
      have HWE := HWZ.out
      rw [HWE]
      clear HWE
      have o0 : wZ.cell? ⟨w.heap.size, 0, none⟩ = some (.int .i64 u.kind) := HR9.out.c 0 (by omega)
      have o1 : wZ.cell? ⟨w.heap.size, 1, none⟩ = some (.int .i64 u.key) := HR9.out.c 1 (by omega)
      have o2 : wZ.cell? ⟨w.heap.size, 2, none⟩ = some (.bool u.found) := HR9.out.c 2 (by omega)
      have o3 : wZ.cell? ⟨w.heap.size, 3, none⟩ = some (.int .i64 u.value) := HR9.out.c 3 (by omega)
      have o4 : wZ.cell? ⟨w.heap.size, 4, none⟩ = some (.int .i64 u.entry) := HR9.out.c 4 (by omega)
      refine bodyPost_ret (v := .agg #[.int .i64 u.kind, .int .i64 u.key, .bool u.found, .int .i64 u.value, .int .i64 u.entry]) ?_ rfl HFIN.out
      simp [results, Tryz.results33, go_sem, o0, o1, o2, o3, o4]
    case inl =>
      obtain ⟨ae, cape, ge, ev1, hp, hro⟩ := hB.dc.rt.es.open
      have hnS : n < t.sh.es.length := by rw [Tb.sh_len]; exact hof.1
      obtain ⟨rfl, hob, hfz⟩ := hp (by omega)
      have hsh : nth t.sh.es n = nth t.es n := shown_hash hof.2.1
      have dk := hro.c2 n hnS
      rw [hsh] at dk
      have hle := hro.le
      rw [Tb.sh_len] at ev1 hle
      have r0 : w6.cell? ⟨y, 0, none⟩ = some (.pointer (some ⟨d, 0, none⟩)) := hB.rm.c 0 (by omega)
      have r3 : w6.cell? ⟨y, 3, none⟩ = some (.int .i64 m.key) := hB.rm.c 3 (by omega)
      have r7 : w6.cell? ⟨y, 7, none⟩ = some (.int .i64 z.at_) := hB.rm.c 7 (by omega)
      have y7 := hB.rm.z 7
      have x2' : w6.cell? ⟨d, 2, none⟩ = some (.pointer (some ⟨g, 0, none⟩)) := hB.dc.hd.c 2 (by omega)
      have f0 : w6.cell? ⟨g, 0, none⟩ = some (.slice (some ⟨ge, 0, none⟩) t.es.length cape) := by rw [← ev1]; exact hB.dc.rt.hd.c 0 (by omega)
      obtain ⟨w7, hw7⟩ : ∃ V, w6.setCell ⟨y, 7, none⟩ (.int .i64 (n : Int)) = V := ⟨_, rfl⟩
      have hy7 : ∀ k, k ≠ y → w7.heap[k]? = w6.heap[k]? := fun k hk => by rw [← hw7]; exact Below.heap_setCell _ _ _ _ hk
      have hm7 : Rm w7 y (.pointer (some ⟨s, 0, none⟩)) d { m with ver := v, scans := sc } { z with same := zs, at_ := (n : Int) } := by
        rw [← hw7]
        refine (hB.rm.put 7 _).congr fun j hj => ?_
        rcases lt17 hj with rfl | rfl | rfl | rfl | rfl | rfl | rfl | rfl | rfl | rfl | rfl | rfl | rfl | rfl | rfl | rfl | rfl <;> rfl
      have lge : ge < w6.heap.size := hB.dc.rt.es.lt ge hob
      have hge : ge ≠ y := fun e => ny (.inr (.inr (.inr (e ▸ hob))))
      have s0 : w7.cell? ⟨y, 0, none⟩ = some (.pointer (some ⟨d, 0, none⟩)) := hm7.c 0 (by omega)
      have s3 : w7.cell? ⟨y, 3, none⟩ = some (.int .i64 m.key) := hm7.c 3 (by omega)
      have s7 : w7.cell? ⟨d, 2, none⟩ = some (.pointer (some ⟨g, 0, none⟩)) := (World.cell?_of_block (a := ⟨d, 2, none⟩) (hy7 d (fun e => hyd e.symm))).trans x2'
      have s8 : w7.cell? ⟨g, 0, none⟩ = some (.slice (some ⟨ge, 0, none⟩) t.es.length cape) := (World.cell?_of_block (a := ⟨g, 0, none⟩) (hy7 g (fun e => ny (.inr (.inl e.symm))))).trans f0
      have s9 : w7.cell? ⟨ge, n * 5 + 2, none⟩ = some (.int .i64 (nth t.es n).key) := (World.cell?_of_block (a := ⟨ge, n * 5 + 2, none⟩) (hy7 ge hge)).trans dk
      have tn : (n : Int) < (t.es.length : Int) := by have := hof.1; omega
      have hs7 : w7.heap.size = w6.heap.size := by rw [← hw7]; simp [World.setCell]
      have HB7 : Hid (Rb w d g q ev t (.pointer pr) most v a (b + ((j + 1 - i : Nat) : Int)) y sv { m with ver := v, scans := sc } { z with same := zs, at_ := (n : Int) } s w7) := ⟨hB.dc.same fun k hk => hy7 k (fun e => ny (e ▸ hk)), hB.ms.same fun k hk => hy7 k (fun e => nmy (e ▸ hk)), hm7, by rw [← hw7]; exact hB.ex.setCell (p := ⟨y, 7, none⟩) (fun _ => .inr (.inr (.inl rfl))) _, by rw [hs7]; exact hB.big, by rw [hs7]; exact hB.ls, hB.res.same (hy7 _ hyR)⟩
      have HV7 : Hid (V2 w7 s (j + 1)) := hV.same (hy7 s HA.out.ns)
      have HS7 : Hid (S2 w7 s g t m.hash (j + 1) (n : Int)) := Blk.same hS2 (hy7 s HA.out.ns)
      have HOF : Hid (Of t.es m.hash n ∧ told < (n : Int) ∧ ((∀ k, Of t.es m.hash k → told < (k : Int) → n ≤ k) ∧ t.c (trl (uw m.hash) t.L j) = (n : Int) ∧ Told t.es t.L t.c m.hash j told)) := ⟨hof, htn, hleast⟩
      have HJ : Hid (i ≤ j ∧ j ≤ f) := ⟨hij, hjf⟩
      have HW7 := Lib.hid hw7
      have HLEN : Hid (t.es.length ≤ 100000) := Nat.le_trans HO.out.few HO.out.all
      have HEV : Hid (ev.ownBlock = some ge) := hob
      obtain ⟨ky, hky⟩ : ∃ ky, (nth t.es n).key = ky := ⟨_, rfl⟩
      rw [hky] at s9
      have HKY := Lib.hid hky
      clear hw7 hy7 hm7 hs7 hB hV hS2 hof htn hleast hij hjf dk hro hp hfz hob ev1 hsh hnS f0 x2' r0 r3 k5 k9 hky lge hge
      go_upto_region 14 with fail
      have HWE := HW7.out
      rw [HWE]
      clear HWE r7 y7
      have u0 : w7.drew.cell? ⟨y, 0, none⟩ = some (.pointer (some ⟨d, 0, none⟩)) := s0
      have u3 : w7.drew.cell? ⟨y, 3, none⟩ = some (.int .i64 m.key) := s3
      have u7 : w7.drew.cell? ⟨d, 2, none⟩ = some (.pointer (some ⟨g, 0, none⟩)) := s7
      have u8 : w7.drew.cell? ⟨g, 0, none⟩ = some (.slice (some ⟨ge, 0, none⟩) t.es.length cape) := s8
      have u9 : w7.drew.cell? ⟨ge, n * 5 + 2, none⟩ = some (.int .i64 ky) := s9
      go_region_held3 (fun V => V.cell? ⟨y, 0, none⟩ = some (.pointer (some ⟨d, 0, none⟩)) ∧ V.cell? ⟨y, 3, none⟩ = some (.int .i64 m.key) ∧ V.cell? ⟨d, 2, none⟩ = some (.pointer (some ⟨g, 0, none⟩)) ∧ V.cell? ⟨g, 0, none⟩ = some (.slice (some ⟨ge, 0, none⟩) t.es.length cape) ∧ V.cell? ⟨ge, n * 5 + 2, none⟩ = some (.int .i64 ky)) (first | with_reducible exact ⟨u0, u3, u7, u8, u9⟩ | fail) (fail)
      clear s0 s3 s7 s8 s9 u0 u3 u7 u8 u9
      obtain ⟨w8, hw8⟩ : ∃ V, w7.drew = V := ⟨_, rfl⟩
      rw [hw8]
      have HB8 : Hid (Rb w d g q ev t (.pointer pr) most v a (b + ((j + 1 - i : Nat) : Int)) y sv { m with ver := v, scans := sc } { z with same := zs, at_ := (n : Int) } s w8) := by
        rw [← hw8]
        exact ⟨HB7.out.dc.same fun _ _ => rfl, HB7.out.ms.same fun _ _ => rfl, Blk.same HB7.out.rm rfl, HB7.out.ex.drew, HB7.out.big, HB7.out.ls, HB7.out.res.same rfl⟩
      have HV8 : Hid (V2 w8 s (j + 1)) := by rw [← hw8]; exact HV7.out.same rfl
      have HS8 : Hid (S2 w8 s g t m.hash (j + 1) (n : Int)) := by rw [← hw8]; exact Blk.same HS7.out rfl
      clear hw8 HB7 HV7 HS7 HW7
      by_cases hkk : ky = m.key
      case pos =>
        have tk : (ky == m.key) = true := by rw [beq_iff_eq]; exact hkk
        have HKK : Hid ((nth t.es n).key = m.key) := HKY.out.trans hkk
        clear hkk
        have CH := rhit_any HB8.out.dc HB8.out.ms HBD.out.2.2.1 HBD.out.1.2.2.1 HLEN.out HB8.out.rm ny nmy n rfl HOF.out.1.1 HOF.out.1.2.1
        unfold tuV at CH
        go_wp2_with fail
        refine CH.mono ?_
        rintro e w9 ⟨u, rfl, hu, hc, hm9⟩
        clear CH tk
        have hRe : Blk w9 w.heap.size 5 _ := HB8.out.res.same (hc.ex.block _ HB8.out.big (fun h => by
          rcases h with h | h | h
          · have := HR.out.lt _ h; omega
          · have := HM.out.lt _ h; omega
          · exact hyR h))
        have hVs : V2 w9 s (j + 1) := HV8.out.same (hc.ex.block s HB8.out.ls (fun h => by
          rcases h with h | h | h
          · exact HA.out.nc h
          · exact HA.out.nm h
          · exact HA.out.ns h))
        have q0 : w9.cell? ⟨w.heap.size, 0, none⟩ = some (.int .i64 0) := hRe.c 0 (by omega)
        have q1 : w9.cell? ⟨w.heap.size, 1, none⟩ = some (.int .i64 0) := hRe.c 1 (by omega)
        have q2 : w9.cell? ⟨w.heap.size, 2, none⟩ = some (.bool false) := hRe.c 2 (by omega)
        have q3 : w9.cell? ⟨w.heap.size, 3, none⟩ = some (.int .i64 0) := hRe.c 3 (by omega)
        have q4 : w9.cell? ⟨w.heap.size, 4, none⟩ = some (.int .i64 0) := hRe.c 4 (by omega)
        have z0 := hRe.z 0
        have z1 := hRe.z 1
        have z2 := hRe.z 2
        have z3 := hRe.z 3
        have z4 := hRe.z 4
        obtain ⟨wZ, hwZ⟩ : ∃ V, (put5 w9 w.heap.size (.int .i64 u.kind) (.int .i64 u.key) (.bool u.found) (.int .i64 u.value) (.int .i64 u.entry)) = V := ⟨_, rfl⟩
        have hbz : ∀ k, k ≠ w.heap.size → wZ.heap[k]? = w9.heap[k]? := fun k hk => by rw [← hwZ]; exact putU_other w9 w.heap.size u k hk
        have hRz : Blk wZ w.heap.size 5 (fun j => [Value.int .i64 u.kind, .int .i64 u.key, .bool u.found, .int .i64 u.value, .int .i64 u.entry].getD j .nilFunc) := by rw [← hwZ]; exact put5_blk hRe _ _ _ _ _
        have HFIN : Hid (∃ u' s i told f sc zs, Ending.returned (Value.agg #[.int .i64 u.kind, .int .i64 u.key, .bool u.found, .int .i64 u.value, .int .i64 u.entry]) = .returned (Value.agg #[.int .i64 u'.kind, .int .i64 u'.key, .bool u'.found, .int .i64 u'.value, .int .i64 u'.entry]) ∧ StR w g t sv v m s i told f sc ∧ RsR w d g q ev t (.pointer pr) y sv a b most v { m with ver := v, scans := sc } { z with same := zs } s i told f u' wZ) := ⟨u, s, i, told, f, sc, zs, rfl, HST.out, j, HJ.out.1, HJ.out.2, .inl ⟨n, HOF.out.1, HOF.out.2.1, HOF.out.2.2, .inl ⟨HKK.out, hu, by rw [← hwZ]; exact Rcd.up HR.out.lt HM.out.lt HB8.out.ex HB8.out.big hc u, hm9.same (hbz y hyR.symm), hVs.same (hbz s HA.out.nr)⟩⟩⟩
        clear hu hc hm9 hVs
        have HR9 := Lib.hid hRz
        have HWZ := Lib.hid hwZ
        unfold put5 at HWZ
        clear hwZ hRz hbz hRe
        go_wp2_with fail
        have HWE := HWZ.out
        rw [HWE]
        clear HWE
        have o0 : wZ.cell? ⟨w.heap.size, 0, none⟩ = some (.int .i64 u.kind) := HR9.out.c 0 (by omega)
        have o1 : wZ.cell? ⟨w.heap.size, 1, none⟩ = some (.int .i64 u.key) := HR9.out.c 1 (by omega)
        have o2 : wZ.cell? ⟨w.heap.size, 2, none⟩ = some (.bool u.found) := HR9.out.c 2 (by omega)
        have o3 : wZ.cell? ⟨w.heap.size, 3, none⟩ = some (.int .i64 u.value) := HR9.out.c 3 (by omega)
        have o4 : wZ.cell? ⟨w.heap.size, 4, none⟩ = some (.int .i64 u.entry) := HR9.out.c 4 (by omega)
        refine bodyPost_ret (v := .agg #[.int .i64 u.kind, .int .i64 u.key, .bool u.found, .int .i64 u.value, .int .i64 u.entry]) ?_ rfl HFIN.out
        simp [results, Tryz.results33, go_sem, o0, o1, o2, o3, o4]
      case neg =>
        have tk : (ky == m.key) = false := by rw [beq_eq_false_iff_ne]; exact hkk
        have HKK : Hid ((nth t.es n).key ≠ m.key) := fun h => hkk (HKY.out.symm.trans h)
        clear hkk
        obtain ⟨ae, cape2, ge2, ev1, hp, hro⟩ := HB8.out.dc.rt.es.open
        have hnS : n < t.sh.es.length := by rw [Tb.sh_len]; exact HOF.out.1.1
        obtain ⟨rfl, hob, hfz⟩ := hp (by omega)
        have hsh : nth t.sh.es n = nth t.es n := shown_hash HOF.out.1.2.1
        have dk := hro.c2 n hnS
        rw [hsh, HKY.out] at dk
        have hle2 := hro.le
        rw [Tb.sh_len] at ev1 hle2
        have hge : ge2 ≠ y := fun e => ny (.inr (.inr (.inr (e ▸ hob))))
        have k8 : w8.cell? ⟨y, 8, none⟩ = some (.bool z.waits) := HB8.out.rm.c 8 (by omega)
        have y8 := HB8.out.rm.z 8
        have f0 : w8.cell? ⟨g, 0, none⟩ = some (.slice (some ⟨ge2, 0, none⟩) t.es.length cape2) := by rw [← ev1]; exact HB8.out.dc.rt.hd.c 0 (by omega)
        have x2' : w8.cell? ⟨d, 2, none⟩ = some (.pointer (some ⟨g, 0, none⟩)) := HB8.out.dc.hd.c 2 (by omega)
        obtain ⟨w9, hw9⟩ : ∃ V, w8.setCell ⟨y, 8, none⟩ (.bool true) = V := ⟨_, rfl⟩
        have hy9 : ∀ k, k ≠ y → w9.heap[k]? = w8.heap[k]? := fun k hk => by rw [← hw9]; exact Below.heap_setCell _ _ _ _ hk
        have hm9 : Rm w9 y (.pointer (some ⟨s, 0, none⟩)) d { m with ver := v, scans := sc } { z with same := zs, at_ := (n : Int), waits := true } := by
          rw [← hw9]
          refine (HB8.out.rm.put 8 _).congr fun j hj => ?_
          rcases lt17 hj with rfl | rfl | rfl | rfl | rfl | rfl | rfl | rfl | rfl | rfl | rfl | rfl | rfl | rfl | rfl | rfl | rfl <;> rfl
        have hx9 : Ex (fun k => k = y) w8 w9 := by rw [← hw9]; exact (Ex.refl (fun k => k = y) w8).setCell (p := ⟨y, 8, none⟩) (fun _ => rfl) _
        have i0 : w9.cell? ⟨y, 0, none⟩ = some (.pointer (some ⟨d, 0, none⟩)) := hm9.c 0 (by omega)
        have i1 : w9.cell? ⟨d, 2, none⟩ = some (.pointer (some ⟨g, 0, none⟩)) := (World.cell?_of_block (a := ⟨d, 2, none⟩) (hy9 d (fun e => hyd e.symm))).trans x2'
        have i2 : w9.cell? ⟨g, 0, none⟩ = some (.slice (some ⟨ge2, 0, none⟩) t.es.length cape2) := (World.cell?_of_block (a := ⟨g, 0, none⟩) (hy9 g (fun e => ny (.inr (.inl e.symm))))).trans f0
        have i3 : w9.cell? ⟨ge2, n * 5 + 2, none⟩ = some (.int .i64 ky) := (World.cell?_of_block (a := ⟨ge2, n * 5 + 2, none⟩) (hy9 ge2 hge)).trans dk
        have j11 : w9.cell? ⟨y, 11, none⟩ = some (.int .i64 z.u.kind) := hm9.c 11 (by omega)
        have j12 : w9.cell? ⟨y, 12, none⟩ = some (.int .i64 z.u.key) := hm9.c 12 (by omega)
        have j13 : w9.cell? ⟨y, 13, none⟩ = some (.bool z.u.found) := hm9.c 13 (by omega)
        have j14 : w9.cell? ⟨y, 14, none⟩ = some (.int .i64 z.u.value) := hm9.c 14 (by omega)
        have j15 : w9.cell? ⟨y, 15, none⟩ = some (.int .i64 z.u.entry) := hm9.c 15 (by omega)
        have y11 := hm9.z 11
        have y12 := hm9.z 12
        have y13 := hm9.z 13
        have y14 := hm9.z 14
        have y15 := hm9.z 15
        obtain ⟨wA, hwA⟩ : ∃ V, ((((w9.setCell ⟨y, 11, none⟩ (.int .i64 1)).setCell ⟨y, 12, none⟩ (.int .i64 ky)).setCell ⟨y, 13, none⟩ (.bool false)).setCell ⟨y, 14, none⟩ (.int .i64 0)).setCell ⟨y, 15, none⟩ (.int .i64 0) = V := ⟨_, rfl⟩
        have hmA : Rm wA y (.pointer (some ⟨s, 0, none⟩)) d { m with ver := v, scans := sc } { z with same := zs, at_ := (n : Int), waits := true, u := ⟨1, ky, false, 0, 0⟩ } := by rw [← hwA]; exact putR_rm hm9 ⟨1, ky, false, 0, 0⟩
        have hxA : Ex (fun k => k = y) w8 wA := by rw [← hwA]; exact hx9.trans (putR_ex w9 y ⟨1, ky, false, 0, 0⟩)
        have hyA : ∀ k, k ≠ y → wA.heap[k]? = w8.heap[k]? := fun k hk => by rw [← hwA]; exact (putR_other w9 y ⟨1, ky, false, 0, 0⟩ k hk).trans (hy9 k hk)
        have HW9 := Lib.hid hw9
        have HWA := Lib.hid hwA
        have tn2 : (n : Int) < (t.es.length : Int) := tn
        clear hw9 hwA hy9 hm9 hx9 hro hp hfz hob ev1 hsh hnS dk hge f0 x2' 
        have HmA := Lib.hid hmA
        have HxA := Lib.hid hxA
        have HyA := Lib.hid hyA
        clear hmA hxA hyA
        go_upto_region 17 with fail
        have HWE := HW9.out
        rw [HWE]
        clear HWE k8 y8
        go_upto_region 18 with fail
        have HWE := HWA.out
        rw [HWE]
        clear HWE i0 i1 i2 i3 j11 j12 j13 j14 j15 y11 y12 y13 y14 y15
        have k11 : wA.cell? ⟨y, 11, none⟩ = some (.int .i64 1) := HmA.out.c 11 (by omega)
        have k12 : wA.cell? ⟨y, 12, none⟩ = some (.int .i64 ky) := HmA.out.c 12 (by omega)
        have k13 : wA.cell? ⟨y, 13, none⟩ = some (.bool false) := HmA.out.c 13 (by omega)
        have k14 : wA.cell? ⟨y, 14, none⟩ = some (.int .i64 0) := HmA.out.c 14 (by omega)
        have k15 : wA.cell? ⟨y, 15, none⟩ = some (.int .i64 0) := HmA.out.c 15 (by omega)
        have hRe : Blk wA w.heap.size 5 _ := HB8.out.res.same (HyA.out _ hyR)
        have hc : Rcd w8 d g q ev (.pointer pr) (fun k => k = y) a (b + ((j + 1 - i : Nat) : Int)) most v t wA q ev := ⟨HB8.out.dc.same fun k hk => HyA.out k (fun e => ny (e ▸ hk)), HB8.out.ms.same fun k hk => HyA.out k (fun e => nmy (e ▸ hk)), fun k hk => .inl hk, HxA.out.mono (fun k _ e => .inr (.inr e))⟩
        have q0 : wA.cell? ⟨w.heap.size, 0, none⟩ = some (.int .i64 0) := hRe.c 0 (by omega)
        have q1 : wA.cell? ⟨w.heap.size, 1, none⟩ = some (.int .i64 0) := hRe.c 1 (by omega)
        have q2 : wA.cell? ⟨w.heap.size, 2, none⟩ = some (.bool false) := hRe.c 2 (by omega)
        have q3 : wA.cell? ⟨w.heap.size, 3, none⟩ = some (.int .i64 0) := hRe.c 3 (by omega)
        have q4 : wA.cell? ⟨w.heap.size, 4, none⟩ = some (.int .i64 0) := hRe.c 4 (by omega)
        have z0 := hRe.z 0
        have z1 := hRe.z 1
        have z2 := hRe.z 2
        have z3 := hRe.z 3
        have z4 := hRe.z 4
        obtain ⟨wZ, hwZ⟩ : ∃ V, (put5 wA w.heap.size (.int .i64 1) (.int .i64 ky) (.bool false) (.int .i64 0) (.int .i64 0)) = V := ⟨_, rfl⟩
        have hbz : ∀ k, k ≠ w.heap.size → wZ.heap[k]? = wA.heap[k]? := fun k hk => by rw [← hwZ]; exact putU_other wA w.heap.size ⟨1, ky, false, 0, 0⟩ k hk
        have hRz : Blk wZ w.heap.size 5 (fun j => [Value.int .i64 1, .int .i64 ky, .bool false, .int .i64 0, .int .i64 0].getD j .nilFunc) := by rw [← hwZ]; exact put5_blk hRe _ _ _ _ _
        have HFIN : Hid (∃ u' s i told f sc zs, Ending.returned (Value.agg #[.int .i64 1, .int .i64 ky, .bool false, .int .i64 0, .int .i64 0]) = .returned (Value.agg #[.int .i64 u'.kind, .int .i64 u'.key, .bool u'.found, .int .i64 u'.value, .int .i64 u'.entry]) ∧ StR w g t sv v m s i told f sc ∧ RsR w d g q ev t (.pointer pr) y sv a b most v { m with ver := v, scans := sc } { z with same := zs } s i told f u' wZ) := ⟨⟨1, ky, false, 0, 0⟩, s, i, told, f, sc, zs, rfl, HST.out, j, HJ.out.1, HJ.out.2, .inl ⟨n, HOF.out.1, HOF.out.2.1, HOF.out.2.2, .inr ⟨HKK.out, by rw [HKY.out], by rw [← hwZ]; exact Rcd.up HR.out.lt HM.out.lt HB8.out.ex HB8.out.big hc ⟨1, ky, false, 0, 0⟩, HmA.out.same (hbz y hyR.symm), Blk.same HS8.out ((hbz s HA.out.nr).trans (HyA.out s HA.out.ns))⟩⟩⟩
        clear hc
        have HR9 := Lib.hid hRz
        have HWZ := Lib.hid hwZ
        unfold put5 at HWZ
        clear hwZ hRz hbz hRe
        go_wp2_with fail
        have HWE := HWZ.out
        rw [HWE]
        clear HWE
        have o0 : wZ.cell? ⟨w.heap.size, 0, none⟩ = some (.int .i64 1) := HR9.out.c 0 (by omega)
        have o1 : wZ.cell? ⟨w.heap.size, 1, none⟩ = some (.int .i64 ky) := HR9.out.c 1 (by omega)
        have o2 : wZ.cell? ⟨w.heap.size, 2, none⟩ = some (.bool false) := HR9.out.c 2 (by omega)
        have o3 : wZ.cell? ⟨w.heap.size, 3, none⟩ = some (.int .i64 0) := HR9.out.c 3 (by omega)
        have o4 : wZ.cell? ⟨w.heap.size, 4, none⟩ = some (.int .i64 0) := HR9.out.c 4 (by omega)
        refine bodyPost_ret (v := .agg #[.int .i64 1, .int .i64 ky, .bool false, .int .i64 0, .int .i64 0]) ?_ rfl HFIN.out
        simp [results, Tryz.results33, go_sem, o0, o1, o2, o3, o4]
end Go.Proofs.YtejfmajbggmghaaGreat
