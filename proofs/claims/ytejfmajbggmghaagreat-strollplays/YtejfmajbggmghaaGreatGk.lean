/-
  The document's machine: a miss.
  The document's machine: a hit whatever the goal; where it stands ahead of its Seeker's Next, and what a step leaves.
-/
import Derived.Test.YtejfmajbggmghaaGreatRpHit
namespace Go.Proofs.YtejfmajbggmghaaGreat
open Go.RowKit Go.WideShapes

theorem miss_fin {w wc we : World} {d g q q' : Nat} {ev ev' : Value} {T : Tb} {mr : Value} {most : Int} {V : Nat} {a b a0 b0 : Int} (hM : Ms w mr a0 b0 0 0) {y : Nat} (ly : y < w.heap.size) (ny : ¬ rX d g q ev y) (nmy : ¬ mB mr y) (hx : Ex (fun k => rX d g q ev k ∨ mB mr k) w wc) (hRc : Rdc wc d g q' ev' T mr most V) (hMc : Ms wc mr a b 0 0) (fx : ∀ k, rX d g q' ev' k → rX d g q ev k ∨ w.heap.size ≤ k) (nR : ¬ rX d g q' ev' w.heap.size) (hxe : Ex (fun k => k = y) wc we) (u : Tu) : Rcd w d g q ev mr (fun k => k = y) a b most V T (putU we w.heap.size u) q' ev' := by
  have hb := putU_below (B := w.heap.size) (w := we) w.heap.size (Nat.le_refl _) u
  refine ⟨hRc.same fun k hk => ?_, hMc.same fun k hk => ?_, fx, ?_⟩
  · refine (putU_other we w.heap.size u k (fun e => nR (by rw [← e]; exact hk))).trans (hxe.block k (hRc.lt k hk) (fun (e : k = y) => ?_))
    rcases fx k hk with h | h
    · exact ny (e ▸ h)
    · omega
  · have h1 := hM.lt k hk
    exact (hb.block k h1).trans (hxe.block k (Nat.lt_of_lt_of_le h1 hx.size) (fun (e : k = y) => nmy (e ▸ hk)))
  · refine ((hx.mono (fun _ _ h => h.elim .inl (fun y => .inr (.inl y)))).next hxe (fun k _ e => .inr (.inr e))).next (Y := fun k => w.heap.size ≤ k) ⟨hb.os, hb.tape, hb.output, hb.size, fun k _ hn => hb.block k (by omega)⟩ (fun k hk hy => by omega)
set_option maxRecDepth 100000 in
set_option maxHeartbeats 8000000 in
theorem rmiss_any {w : World} {d g q : Nat} {ev : Value} {t : Tb} {mr : Value} {most : Int} {v : Nat} {a b : Int} (hR : Rdc w d g q ev t mr most v) (hM : Ms w mr a b 0 0) (hO : t.Ok) (hm1 : t.made ≤ 1000000) (ha : 0 ≤ a ∧ a ≤ 1000000000) (ht : t.turn ≤ 1000000) (hb : t.births < 100000) (hv : v ≤ 1000000000) {y : Nat} {sv : Value} {m : Ma} {z : Rz} (hm : Rm w y sv d m z) (hg : 1 ≤ m.goal ∧ m.goal ≤ 4) (ny : ¬ rX d g q ev y) (nmy : ¬ mB mr y) :
    Calls Tryz.prog 66 #[.pointer (some ⟨y, 0, none⟩)] w fun e w' => ∃ u, e = .returned (tuV u) ∧ MsR m t most u (fun da dv t' => ∃ q' ev', Rcd w d g q ev mr (fun k => k = y) (a + da) b most (v + dv) t' w' q' ev') ∧ Rm w' y sv d m { z with over := true, u := u } := by
  obtain ⟨w1, hw1⟩ : ∃ V, w.alloc (.cells #[.int .i64 0, .int .i64 0, .bool false, .int .i64 0, .int .i64 0] 45) = V := ⟨_, rfl⟩
  obtain ⟨hX1, hB1, hs1⟩ := tu_zero_blk w hw1
  have hR1 := hR.below hB1
  have hmm1 : Rm w1 y sv d m z := hm.of hB1 (by omega)
  have ly := hm.lt (by omega)
  have k0 : w1.cell? ⟨y, 0, none⟩ = some (.pointer (some ⟨d, 0, none⟩)) := hmm1.c 0 (by omega)
  have k1 : w1.cell? ⟨y, 1, none⟩ = some (.int .i64 (m.goal : Int)) := hmm1.c 1 (by omega)
  have hyR : w.heap.size ≠ y := by omega
  have HR := Lib.hid hR
  have HR1 := Lib.hid hR1
  have HM := Lib.hid hM
  have HMX := Lib.hid hm
  have HM1 := Lib.hid hmm1
  have HB1 := Lib.hid hB1
  have HX1 := Lib.hid hX1
  have HW1 := Lib.hid hw1
  have HS1 := Lib.hid hs1
  have HO := Lib.hid hO
  have HBD : Hid (t.made ≤ 1000000 ∧ (0 ≤ a ∧ a ≤ 1000000000) ∧ t.turn ≤ 1000000 ∧ t.births < 100000) := ⟨hm1, ha, ht, hb⟩
  clear hR hM hm hmm1 hB1 hX1 hw1 hs1 hR1 hO hm1 ha ht hb
  go_enter Tryz.func66, Tryz.ntmps66
  go_upto_region 1 with fail
  rw [HW1.out]
  by_cases hgo : m.goal = 2 ∨ m.goal = 4
  case neg =>
    have g1 : ((m.goal : Int) == 1) = true ∨ ((m.goal : Int) == 1) = false ∧ ((m.goal : Int) == 3) = true := by
      rcases (by omega : m.goal = 1 ∨ m.goal = 3) with h | h
      · exact .inl (by rw [beq_iff_eq]; omega)
      · exact .inr ⟨by rw [beq_eq_false_iff_ne]; omega, by rw [beq_iff_eq]; omega⟩
    have HGO := Lib.hid hgo
    clear hg hgo
    have HRc : Hid (Blk w1 w.heap.size 5 _) := HX1
    rcases g1 with g1 | ⟨g1, g3⟩
    all_goals
      go_upto_region 2 with fail
      have CE : Calls Tryz.prog 83 #[.pointer (some ⟨y, 0, none⟩), .agg #[.int .i64 2, .int .i64 0, .bool false, .int .i64 0, .int .i64 (-1)]] w1 fun e w' => e = .returned (.agg #[.int .i64 2, .int .i64 0, .bool false, .int .i64 0, .int .i64 (-1)]) ∧ Rm w' y sv d m { z with over := true, u := ⟨2, 0, false, 0, -1⟩ } ∧ Ex (fun k => k = y) w1 w' := rends_any HM1.out ⟨2, 0, false, 0, -1⟩
      have hRc := HRc.out
      have hlR := hRc.lt (by omega)
      clear hRc
      go_wp2_with fail
      refine CE.mono ?_
      rintro e we ⟨rfl, hme, hxe⟩
      have hRe := HRc.out.same (w' := we) (hxe.block _ hlR hyR)
      have q0 : we.cell? ⟨w.heap.size, 0, none⟩ = some (.int .i64 0) := hRe.c 0 (by omega)
      have q1 : we.cell? ⟨w.heap.size, 1, none⟩ = some (.int .i64 0) := hRe.c 1 (by omega)
      have q2 : we.cell? ⟨w.heap.size, 2, none⟩ = some (.bool false) := hRe.c 2 (by omega)
      have q3 : we.cell? ⟨w.heap.size, 3, none⟩ = some (.int .i64 0) := hRe.c 3 (by omega)
      have q4 : we.cell? ⟨w.heap.size, 4, none⟩ = some (.int .i64 0) := hRe.c 4 (by omega)
      have z0 := hRe.z 0
      have z1 := hRe.z 1
      have z2 := hRe.z 2
      have z3 := hRe.z 3
      have z4 := hRe.z 4
      obtain ⟨wZ, hwZ⟩ : ∃ V, (put5 we w.heap.size (.int .i64 (2)) (.int .i64 (0)) (.bool false) (.int .i64 (0)) (.int .i64 (-1))) = V := ⟨_, rfl⟩
      have hRz : Blk wZ w.heap.size 5 (fun j => [Value.int .i64 (2), .int .i64 (0), .bool false, .int .i64 (0), .int .i64 (-1)].getD j .nilFunc) := by rw [← hwZ]; exact put5_blk hRe _ _ _ _ _
      have hMz : Rm wZ y sv d m { z with over := true, u := ⟨2, 0, false, 0, -1⟩ } := hme.same (by rw [← hwZ]; exact putU_other we w.heap.size ⟨2, 0, false, 0, -1⟩ _ hyR.symm)
      have hFz : Rcd w d g q ev mr (fun k => k = y) (a + 0) b most v t wZ q ev := by
        rw [← hwZ, Int.add_zero]
        exact miss_fin HM.out ly ny nmy (ex_of HB1.out) HR1.out (HM.out.below HB1.out) (fun k hk => .inl hk) (fun h => by have := HR.out.lt _ h; omega) hxe ⟨2, 0, false, 0, -1⟩
      have HR9 := Lib.hid hRz
      have HM9 := Lib.hid hMz
      have HF9 := Lib.hid hFz
      have HWZ := Lib.hid hwZ
      unfold put5 at HWZ
      clear hwZ hRz hMz hFz hme hxe hRe CE
      go_wp2_with fail
      have HWE := HWZ.out
      rw [HWE]
      clear HWE
      have o0 : wZ.cell? ⟨w.heap.size, 0, none⟩ = some (.int .i64 (2)) := HR9.out.c 0 (by omega)
      have o1 : wZ.cell? ⟨w.heap.size, 1, none⟩ = some (.int .i64 (0)) := HR9.out.c 1 (by omega)
      have o2 : wZ.cell? ⟨w.heap.size, 2, none⟩ = some (.bool false) := HR9.out.c 2 (by omega)
      have o3 : wZ.cell? ⟨w.heap.size, 3, none⟩ = some (.int .i64 (0)) := HR9.out.c 3 (by omega)
      have o4 : wZ.cell? ⟨w.heap.size, 4, none⟩ = some (.int .i64 (-1)) := HR9.out.c 4 (by omega)
      refine bodyPost_ret (v := .agg #[.int .i64 2, .int .i64 0, .bool false, .int .i64 0, .int .i64 (-1)]) ?_ rfl ⟨⟨2, 0, false, 0, -1⟩, rfl, .inr (.inr ⟨HGO.out, rfl, q, ev, HF9.out⟩), HM9.out⟩
      simp [results, Tryz.results66, go_sem, o0, o1, o2, o3, o4]
  case pos =>
    have g1 : ((m.goal : Int) == 1) = false := by rw [beq_eq_false_iff_ne]; omega
    have g3 : ((m.goal : Int) == 3) = false := by rw [beq_eq_false_iff_ne]; omega
    have HGO := Lib.hid hgo
    clear hg hgo
    go_upto_region 3 with fail
    have d0 : w1.drew.cell? ⟨y, 0, none⟩ = some (.pointer (some ⟨d, 0, none⟩)) := k0
    have d1 : w1.drew.cell? ⟨d, 0, none⟩ = some (.int .i64 most) := HR1.out.hd.c 0 (by omega)
    have CL : Calls Tryz.prog 40 #[.pointer (some ⟨d, 0, none⟩)] w1.drew fun e w' => e = .returned (.int .i64 (t.live : Int)) ∧ w' = w1.drew := rplen_any (HR1.out.below (Below.refl _ _).drew)
    go_region_held3 (fun V => V.cell? ⟨y, 0, none⟩ = some (.pointer (some ⟨d, 0, none⟩)) ∧ V.cell? ⟨d, 0, none⟩ = some (.int .i64 most)) (first | with_reducible exact ⟨d0, d1⟩ | fail)
      (first | (go_at_call 40; refine CL.mono ?_; rintro e w2 ⟨rfl, rfl⟩) | fail)
    clear CL d0 d1 k0 k1 g1 g3
    obtain ⟨w2, hw2⟩ : ∃ V, w1.drew = V := ⟨_, rfl⟩
    rw [hw2]
    have hb2 : Below w1.heap.size w1 w2 := by rw [← hw2]; exact (Below.refl _ _).drew
    have hs2 : w2.heap.size = w1.heap.size := by rw [← hw2]; rfl
    have HR2 := Lib.hid (HR1.out.below hb2)
    have hm2 : Rm w2 y sv d m z := HM1.out.of hb2 (by have := HS1.out; omega)
    have HX2 := Lib.hid (HX1.out.of hb2 (by have := HS1.out; omega))
    have HB2 := Lib.hid (HB1.out.trans (hb2.mono HB1.out.size))
    have HM2 := Lib.hid hm2
    have HS2 : Hid (w2.heap.size = w.heap.size + 1) := hs2.trans HS1.out
    clear hw2 hb2 hs2 hm2
    by_cases hfull : (t.live : Int) < most
    case neg =>
      have t0 : decide (most ≤ (t.live : Int)) = true := decide_eq_true (by omega)
      have HFU : Hid (¬ (t.live : Int) < most) := hfull
      clear hfull
      have HRc : Hid (Blk w2 w.heap.size 5 _) := HX2
      go_upto_region 4 with fail
      have CE : Calls Tryz.prog 83 #[.pointer (some ⟨y, 0, none⟩), .agg #[.int .i64 3, .int .i64 0, .bool false, .int .i64 0, .int .i64 0]] w2 fun e w' => e = .returned (.agg #[.int .i64 3, .int .i64 0, .bool false, .int .i64 0, .int .i64 0]) ∧ Rm w' y sv d m { z with over := true, u := ⟨3, 0, false, 0, 0⟩ } ∧ Ex (fun k => k = y) w2 w' := rends_any HM2.out ⟨3, 0, false, 0, 0⟩
      have hRc := HRc.out
      have hlR := hRc.lt (by omega)
      clear hRc
      go_wp2_with fail
      refine CE.mono ?_
      rintro e we ⟨rfl, hme, hxe⟩
      have hRe := HRc.out.same (w' := we) (hxe.block _ hlR hyR)
      have q0 : we.cell? ⟨w.heap.size, 0, none⟩ = some (.int .i64 0) := hRe.c 0 (by omega)
      have q1 : we.cell? ⟨w.heap.size, 1, none⟩ = some (.int .i64 0) := hRe.c 1 (by omega)
      have q2 : we.cell? ⟨w.heap.size, 2, none⟩ = some (.bool false) := hRe.c 2 (by omega)
      have q3 : we.cell? ⟨w.heap.size, 3, none⟩ = some (.int .i64 0) := hRe.c 3 (by omega)
      have q4 : we.cell? ⟨w.heap.size, 4, none⟩ = some (.int .i64 0) := hRe.c 4 (by omega)
      have z0 := hRe.z 0
      have z1 := hRe.z 1
      have z2 := hRe.z 2
      have z3 := hRe.z 3
      have z4 := hRe.z 4
      obtain ⟨wZ, hwZ⟩ : ∃ V, (put5 we w.heap.size (.int .i64 (3)) (.int .i64 (0)) (.bool false) (.int .i64 (0)) (.int .i64 (0))) = V := ⟨_, rfl⟩
      have hRz : Blk wZ w.heap.size 5 (fun j => [Value.int .i64 (3), .int .i64 (0), .bool false, .int .i64 (0), .int .i64 (0)].getD j .nilFunc) := by rw [← hwZ]; exact put5_blk hRe _ _ _ _ _
      have hMz : Rm wZ y sv d m { z with over := true, u := ⟨3, 0, false, 0, 0⟩ } := hme.same (by rw [← hwZ]; exact putU_other we w.heap.size ⟨3, 0, false, 0, 0⟩ _ hyR.symm)
      have hFz : Rcd w d g q ev mr (fun k => k = y) (a + 0) b most v t wZ q ev := by
        rw [← hwZ, Int.add_zero]
        exact miss_fin HM.out ly ny nmy (ex_of HB2.out) HR2.out (HM.out.below HB2.out) (fun k hk => .inl hk) (fun h => by have := HR.out.lt _ h; omega) hxe ⟨3, 0, false, 0, 0⟩
      have HR9 := Lib.hid hRz
      have HM9 := Lib.hid hMz
      have HF9 := Lib.hid hFz
      have HWZ := Lib.hid hwZ
      unfold put5 at HWZ
      clear hwZ hRz hMz hFz hme hxe hRe CE
      go_wp2_with fail
      have HWE := HWZ.out
      rw [HWE]
      clear HWE
      have o0 : wZ.cell? ⟨w.heap.size, 0, none⟩ = some (.int .i64 (3)) := HR9.out.c 0 (by omega)
      have o1 : wZ.cell? ⟨w.heap.size, 1, none⟩ = some (.int .i64 (0)) := HR9.out.c 1 (by omega)
      have o2 : wZ.cell? ⟨w.heap.size, 2, none⟩ = some (.bool false) := HR9.out.c 2 (by omega)
      have o3 : wZ.cell? ⟨w.heap.size, 3, none⟩ = some (.int .i64 (0)) := HR9.out.c 3 (by omega)
      have o4 : wZ.cell? ⟨w.heap.size, 4, none⟩ = some (.int .i64 (0)) := HR9.out.c 4 (by omega)
      refine bodyPost_ret (v := .agg #[.int .i64 3, .int .i64 0, .bool false, .int .i64 0, .int .i64 0]) ?_ rfl ⟨⟨3, 0, false, 0, 0⟩, rfl, .inr (.inl ⟨HGO.out, by have := HFU.out; omega, rfl, q, ev, HF9.out⟩), HM9.out⟩
      simp [results, Tryz.results66, go_sem, o0, o1, o2, o3, o4]
    case pos =>
      have t0 : ¬ most ≤ (t.live : Int) := by omega
      have HFU := Lib.hid hfull
      clear hfull
      go_upto_region 5 with fail
      have k0 : w2.drew.cell? ⟨y, 0, none⟩ = some (.pointer (some ⟨d, 0, none⟩)) := HM2.out.c 0 (by omega)
      have k2 : w2.drew.cell? ⟨y, 2, none⟩ = some (.int .i64 m.hash) := HM2.out.c 2 (by omega)
      have k3 : w2.drew.cell? ⟨y, 3, none⟩ = some (.int .i64 m.key) := HM2.out.c 3 (by omega)
      have k4 : w2.drew.cell? ⟨y, 4, none⟩ = some (.int .i64 m.value) := HM2.out.c 4 (by omega)
      have x2 : w2.drew.cell? ⟨d, 2, none⟩ = some (.pointer (some ⟨g, 0, none⟩)) := HR2.out.hd.c 2 (by omega)
      have CA := radd_s (w := w2.drew) (HR2.out.rt.same fun _ _ => rfl) HO.out ((HM.out.below HB2.out).same fun _ _ => rfl) HBD.out.1 HBD.out.2.1 HBD.out.2.2.1 HBD.out.2.2.2 m.hash m.key m.value
      have HK3 : Hid (∀ w3, Ex (tX g ev q mr) w2.drew w3 → Rm w3 y sv d m z ∧ Blk w3 d 3 (rdF most v g) ∧ Ex (fun k => rX d g q ev k ∨ mB mr k) w w3 ∧ Blk w3 w.heap.size 5 (fun j => #[Value.int .i64 0, .int .i64 0, .bool false, .int .i64 0, .int .i64 0].getD j .nilFunc)) := fun w3 h => by
        have hs := HS2.out
        have htx : ∀ k, tX g ev q mr k → rX d g q ev k ∨ mB mr k := fun k hk => by
          unfold tX at hk
          rcases hk with y | y | y | y
          · exact .inl (.inr (.inl y))
          · exact .inl (.inr (.inr (.inl y)))
          · exact .inl (.inr (.inr (.inr y)))
          · exact .inr y
        have hkk : ∀ k, k < w2.heap.size → ¬ (tX g ev q mr k) → w3.heap[k]? = w2.heap[k]? := fun k hk hn => h.block k hk hn
        refine ⟨HM2.out.same (hkk y (by omega) (fun hx => (htx y hx).elim ny nmy)), HR2.out.hd.same (hkk d (HR2.out.lt d (.inl rfl)) (fun hx => ?_)), (show Ex (fun k => rX d g q ev k ∨ mB mr k) w w2 from ex_of HB2.out).drew.next h (fun k _ hk => htx k hk), HX2.out.same (hkk _ (by omega) (fun hx => ?_))⟩
        · unfold tX at hx
          rcases hx with y | y | y | y
          · exact HR.out.ne (.inl y)
          · exact HR.out.ne (.inr (.inl y))
          · exact HR.out.ne (.inr (.inr y))
          · exact HR.out.nm y
        · rcases htx _ hx with y | y
          · have := HR.out.lt _ y; omega
          · have := HM.out.lt _ y; omega
      go_region_held3 (fun V => (V.cell? ⟨y, 0, none⟩ = some (.pointer (some ⟨d, 0, none⟩)) ∧ V.cell? ⟨y, 2, none⟩ = some (.int .i64 m.hash)) ∧ V.cell? ⟨y, 3, none⟩ = some (.int .i64 m.key) ∧ V.cell? ⟨y, 4, none⟩ = some (.int .i64 m.value) ∧ V.cell? ⟨d, 2, none⟩ = some (.pointer (some ⟨g, 0, none⟩))) (first | with_reducible exact ⟨⟨k0, k2⟩, k3, k4, x2⟩ | with_reducible exact s1 | fail)
        (first | (go_at_call 85; refine CA.mono ?_; rintro e w3 ⟨rfl, ev', q', hq', hev', hR3, hM3, hx3⟩; obtain ⟨hm3, hd3, hE3, hX3⟩ := HK3.out w3 hx3; have s1 : (w3.cell? ⟨y, 0, none⟩ = some (.pointer (some ⟨d, 0, none⟩)) ∧ w3.cell? ⟨y, 2, none⟩ = some (.int .i64 m.hash)) ∧ w3.cell? ⟨y, 3, none⟩ = some (.int .i64 m.key) ∧ w3.cell? ⟨y, 4, none⟩ = some (.int .i64 m.value) ∧ w3.cell? ⟨d, 2, none⟩ = some (.pointer (some ⟨g, 0, none⟩)) := ⟨⟨hm3.c 0 (by omega), hm3.c 2 (by omega)⟩, hm3.c 3 (by omega), hm3.c 4 (by omega), hd3.c 2 (by omega)⟩) | fail)
      clear CA k0 k2 k3 k4 x2 s1
      have b0 : w3.cell? ⟨y, 0, none⟩ = some (.pointer (some ⟨d, 0, none⟩)) := hm3.c 0 (by omega)
      have bd : w3.cell? ⟨d, 1, none⟩ = some (.int .i64 (v : Int)) := hd3.c 1 (by omega)
      have bz := hd3.z 1
      have e1 : IntKind.i64.wrap ((v : Int) + 1) = (v : Int) + 1 := i64_small (by omega) (by omega)
      have hld : d < w.heap.size := HR.out.lt d (.inl rfl)
      have hs2 := HS2.out
      have hne' : ¬ (d = g ∨ d = q' ∨ ev'.ownBlock = some d) := fun h => by
        rcases h with h | h | h
        · exact HR.out.ne (.inl h)
        · rcases hq' with y | y
          · exact HR.out.ne (.inr (.inl (h.trans y)))
          · have : w2.drew.heap.size = w2.heap.size := rfl
            omega
        · rcases hev' d h with y | y
          · exact HR.out.ne (.inr (.inr y))
          · have : w2.drew.heap.size = w2.heap.size := rfl
            omega
      have hR3' : Rdc w3 d g q' ev' (t.add m.hash m.key m.value) mr most v := ⟨hd3, hR3, hne', HR.out.nm⟩
      have hyd : y ≠ d := fun e => ny (.inl e)
      have HFX : Hid (∀ k, rX d g q' ev' k → rX d g q ev k ∨ w.heap.size + 1 ≤ k) := fun k hk => by
        have : w2.drew.heap.size = w2.heap.size := rfl
        rcases hk with h | h | h | h
        · exact .inl (.inl h)
        · exact .inl (.inr (.inl h))
        · rcases hq' with y | y
          · exact .inl (.inr (.inr (.inl (h.trans y))))
          · exact .inr (by omega)
        · rcases hev' k h with y | y
          · exact .inl (.inr (.inr (.inr y)))
          · exact .inr (by omega)
      obtain ⟨w4, hw4⟩ : ∃ V, w3.setCell ⟨d, 1, none⟩ (.int .i64 ((v : Int) + 1)) = V := ⟨_, rfl⟩
      have HR4 : Hid (Rdc w4 d g q' ev' (t.add m.hash m.key m.value) mr most (v + 1)) := by rw [← hw4]; exact hR3'.bump
      have HX4 : Hid (Ex (fun k => rX d g q ev k ∨ mB mr k) w w4) := by rw [← hw4]; exact hE3.setCell (p := ⟨d, 1, none⟩) (fun _ => .inl (.inl rfl)) _
      have HM4 : Hid (Rm w4 y sv d m z) := hm3.same (by rw [← hw4]; exact Below.heap_setCell _ _ _ _ hyd)
      have HRc : Hid (Blk w4 w.heap.size 5 _) := hX3.same (by rw [← hw4]; exact Below.heap_setCell _ _ _ _ (by show w.heap.size ≠ d; omega))
      have HMM4 : Hid (Ms w4 mr (a + ((t.add m.hash m.key m.value).made - t.made : Nat)) b 0 0) := hM3.same fun k hk => by rw [← hw4]; exact Below.heap_setCell _ _ _ _ (fun (e : k = d) => HR.out.nm (e ▸ hk))
      have HW4 := Lib.hid hw4
      clear hw4 hm3 hd3 hE3 hX3 hR3 hM3 hx3 hR3' hne' hq' hev' hld hs2 HK3
      go_upto_region 7 with fail
      rw [HW4.out]
      clear b0 bd bz
      have b4 : w4.cell? ⟨y, 4, none⟩ = some (.int .i64 m.value) := HM4.out.c 4 (by omega)
      obtain ⟨N, hN⟩ : ∃ N : Int, (((t.add m.hash m.key m.value).es.length - 1 : Nat) : Int) = N := ⟨_, rfl⟩
      rw [hN]
      have HN := Lib.hid hN
      clear hN
      have CE : Calls Tryz.prog 83 #[.pointer (some ⟨y, 0, none⟩), .agg #[.int .i64 2, .int .i64 0, .bool false, .int .i64 (m.value), .int .i64 N]] w4 fun e w' => e = .returned (.agg #[.int .i64 2, .int .i64 0, .bool false, .int .i64 (m.value), .int .i64 N]) ∧ Rm w' y sv d m { z with over := true, u := ⟨2, 0, false, m.value, N⟩ } ∧ Ex (fun k => k = y) w4 w' := rends_any HM4.out ⟨2, 0, false, m.value, N⟩
      have hRc := HRc.out
      have hlR := hRc.lt (by omega)
      clear hRc
      go_wp2_with fail
      refine CE.mono ?_
      rintro e we ⟨rfl, hme, hxe⟩
      have hRe := HRc.out.same (w' := we) (hxe.block _ hlR hyR)
      have q0 : we.cell? ⟨w.heap.size, 0, none⟩ = some (.int .i64 0) := hRe.c 0 (by omega)
      have q1 : we.cell? ⟨w.heap.size, 1, none⟩ = some (.int .i64 0) := hRe.c 1 (by omega)
      have q2 : we.cell? ⟨w.heap.size, 2, none⟩ = some (.bool false) := hRe.c 2 (by omega)
      have q3 : we.cell? ⟨w.heap.size, 3, none⟩ = some (.int .i64 0) := hRe.c 3 (by omega)
      have q4 : we.cell? ⟨w.heap.size, 4, none⟩ = some (.int .i64 0) := hRe.c 4 (by omega)
      have z0 := hRe.z 0
      have z1 := hRe.z 1
      have z2 := hRe.z 2
      have z3 := hRe.z 3
      have z4 := hRe.z 4
      obtain ⟨wZ, hwZ⟩ : ∃ V, (put5 we w.heap.size (.int .i64 (2)) (.int .i64 (0)) (.bool false) (.int .i64 (m.value)) (.int .i64 (N))) = V := ⟨_, rfl⟩
      have hRz : Blk wZ w.heap.size 5 (fun j => [Value.int .i64 (2), .int .i64 (0), .bool false, .int .i64 (m.value), .int .i64 (N)].getD j .nilFunc) := by rw [← hwZ]; exact put5_blk hRe _ _ _ _ _
      have hMz : Rm wZ y sv d m { z with over := true, u := ⟨2, 0, false, m.value, N⟩ } := hme.same (by rw [← hwZ]; exact putU_other we w.heap.size ⟨2, 0, false, m.value, N⟩ _ hyR.symm)
      have hFz : Rcd w d g q ev mr (fun k => k = y) (a + ((t.add m.hash m.key m.value).made - t.made : Nat)) b most (v + 1) (t.add m.hash m.key m.value) wZ q' ev' := by
        rw [← hwZ]
        exact miss_fin HM.out ly ny nmy HX4.out HR4.out HMM4.out (fun k hk => (HFX.out k hk).elim .inl (fun h => .inr (by omega))) (fun h => (HFX.out _ h).elim (fun h => by have := HR.out.lt _ h; omega) (fun h => by omega)) hxe ⟨2, 0, false, m.value, N⟩
      have HR9 := Lib.hid hRz
      have HM9 := Lib.hid hMz
      have HF9 := Lib.hid hFz
      have HWZ := Lib.hid hwZ
      unfold put5 at HWZ
      clear hwZ hRz hMz hFz hme hxe hRe CE
      go_wp2_with fail
      have HWE := HWZ.out
      rw [HWE]
      clear HWE
      have o0 : wZ.cell? ⟨w.heap.size, 0, none⟩ = some (.int .i64 (2)) := HR9.out.c 0 (by omega)
      have o1 : wZ.cell? ⟨w.heap.size, 1, none⟩ = some (.int .i64 (0)) := HR9.out.c 1 (by omega)
      have o2 : wZ.cell? ⟨w.heap.size, 2, none⟩ = some (.bool false) := HR9.out.c 2 (by omega)
      have o3 : wZ.cell? ⟨w.heap.size, 3, none⟩ = some (.int .i64 (m.value)) := HR9.out.c 3 (by omega)
      have o4 : wZ.cell? ⟨w.heap.size, 4, none⟩ = some (.int .i64 (N)) := HR9.out.c 4 (by omega)
      refine bodyPost_ret (v := .agg #[.int .i64 2, .int .i64 0, .bool false, .int .i64 (m.value), .int .i64 N]) ?_ rfl ⟨⟨2, 0, false, m.value, N⟩, rfl, .inl ⟨HGO.out, HFU.out, by rw [HN.out], q', ev', HF9.out⟩, HM9.out⟩
      simp [results, Tryz.results66, go_sem, o0, o1, o2, o3, o4]
end Go.Proofs.YtejfmajbggmghaaGreat
namespace Go.Proofs.YtejfmajbggmghaaGreat
open Go.RowKit Go.WideShapes

theorem rhit_any {w : World} {d g q : Nat} {ev : Value} {t : Tb} {mr : Value} {most : Int} {v : Nat} {a b : Int} (hR : Rdc w d g q ev t mr most v) (hM : Ms w mr a b 0 0) (hv : v ≤ 1000000000) (ht : t.turn ≤ 1000000) (hlen : t.es.length ≤ 100000) {y : Nat} {sv : Value} {m : Ma} {z : Rz} (hm : Rm w y sv d m z) (ny : ¬ rX d g q ev y) (nmy : ¬ mB mr y) (n : Nat) (hat : z.at_ = (n : Int)) (hn : n < t.es.length) (hl : (nth t.es n).live = true) :
    Calls Tryz.prog 64 #[.pointer (some ⟨y, 0, none⟩)] w fun e w' => ∃ u, e = .returned (tuV u) ∧ u = ⟨2, 0, true, (nth t.es n).value, (n : Int)⟩ ∧ Rcd w d g q ev mr (fun k => k = y) a b most (hitN m.goal v) (hitT m t n) w' q ev ∧ Rm w' y sv d m { z with over := true, u := u } := by
  by_cases h2 : m.goal = 2
  · rw [hitN, if_pos (.inl h2), hitT, if_pos h2]
    exact (rhit_put hR hM hv ht hlen hm ny nmy n hat hn hl h2).mono fun e w' ⟨h1, h3, h4⟩ => ⟨_, h1, rfl, h3, h4⟩
  · by_cases h3 : m.goal = 3
    · rw [hitN, if_pos (.inr h3), hitT, if_neg h2, if_pos h3]
      exact (rhit_del hR hM hv ht hlen hm ny nmy n hat hn hl h3).mono fun e w' ⟨h1, h3, h4⟩ => ⟨_, h1, rfl, h3, h4⟩
    · rw [hitN, if_neg (fun x => x.elim h2 h3), hitT, if_neg h2, if_neg h3]
      exact (rhit_get hR hM ht hlen hm ny nmy n hat hn hl h2 h3).mono fun e w' ⟨h1, h3, h4⟩ => ⟨_, h1, rfl, h3, h4⟩
/-- The document's Seeker: how many cells it has visited; under way, at place i. -/
def V2 (w : World) (s n : Nat) : Prop := ∃ g u tn c p o l, Blk w s 8 (sF g u tn c p o n l)
def S2 (w : World) (s g : Nat) (t : Tb) (u : Int) (i : Nat) (told : Int) : Prop := Blk w s 8 (sF g u t.turn (trl (uw u) t.L i) (uw u / 32 ^ i) false i told)
theorem V2.same {w w' : World} {s n : Nat} (h : V2 w s n) (e : w'.heap[s]? = w.heap[s]?) : V2 w' s n := by
  obtain ⟨_, _, _, _, _, _, _, h⟩ := h
  exact ⟨_, _, _, _, _, _, _, h.same e⟩
/-- Ahead of Next. -/
structure Ra (w : World) (d g q : Nat) (ev : Value) (t : Tb) (mr : Value) (most : Int) (v : Nat) (a b : Int) (y : Nat) (sv : Value) (m1 : Ma) (z1 : Rz) (s i : Nat) (told : Int) (f : Nat) (wS : World) : Prop where
  dc : Rdc wS d g q ev t mr most v
  ms : Ms wS mr a b 0 0
  rm : Rm wS y (.pointer (some ⟨s, 0, none⟩)) d m1 z1
  sk : S2 wS s g t m1.hash i told
  td : Told t.es t.L t.c m1.hash i told
  ff : IsF t.c (uw m1.hash) t.L f
  le : i ≤ f
  lt : f < 2 ^ t.L + 13
  ge : -1 ≤ told
  nc : ¬ rX d g q ev s
  nm : ¬ mB mr s
  ns : s ≠ y
  nr : s ≠ w.heap.size
  sf : mB sv s ∨ w.heap.size ≤ s
  same : z1.same = false
  ex : Ex (fun k => k = y) w wS
  big : w.heap.size < wS.heap.size
/-- Behind Next. -/
structure Rb (w : World) (d g q : Nat) (ev : Value) (t : Tb) (mr : Value) (most : Int) (v : Nat) (a b : Int) (y : Nat) (sv : Value) (m1 : Ma) (z1 : Rz) (s : Nat) (w6 : World) : Prop where
  dc : Rdc w6 d g q ev t mr most v
  ms : Ms w6 mr a b 0 0
  rm : Rm w6 y (.pointer (some ⟨s, 0, none⟩)) d m1 z1
  ex : Ex (fun k => rX d g q ev k ∨ mB mr k ∨ k = y ∨ mB sv k) w w6
  big : w.heap.size < w6.heap.size
  ls : s < w6.heap.size
  res : Blk w6 w.heap.size 5 (fun j => #[Value.int .i64 0, .int .i64 0, .bool false, .int .i64 0, .int .i64 0].getD j .nilFunc)
theorem Ra.next {w : World} {d g q : Nat} {ev : Value} {t : Tb} {pr : Option Addr} {most : Int} {v : Nat} {a b : Int} {y : Nat} {sv : Value} {m1 : Ma} {z1 : Rz} {s i : Nat} {told : Int} {f : Nat} {wS : World} (hA : Ra w d g q ev t (.pointer pr) most v a b y sv m1 z1 s i told f wS) (hM : Ms w (.pointer pr) a b 0 0) (hO : t.Ok) (ly : y < w.heap.size) (nmy : ¬ mB (.pointer pr) y) (hb : 0 ≤ b ∧ b ≤ 100000000000)
    (hres : Blk wS w.heap.size 5 (fun j => #[Value.int .i64 0, .int .i64 0, .bool false, .int .i64 0, .int .i64 0].getD j .nilFunc)) :
    Calls Tryz.prog 65 #[.pointer (some ⟨s, 0, none⟩)] wS fun e w6 => ∃ j, i ≤ j ∧ j ≤ f ∧ Rb w d g q ev t (.pointer pr) most v a (b + ((j + 1 - i : Nat) : Int)) y sv m1 z1 s w6 ∧ V2 w6 s (j + 1) ∧
      ((∃ n : Nat, e = .returned (.tuple #[.int .i64 (n : Int), .bool true]) ∧ Of t.es m1.hash n ∧ told < (n : Int) ∧ ((∀ k, Of t.es m1.hash k → told < (k : Int) → n ≤ k) ∧ t.c (trl (uw m1.hash) t.L j) = (n : Int) ∧ Told t.es t.L t.c m1.hash j told) ∧ S2 w6 s g t m1.hash (j + 1) (n : Int)) ∨
       (e = .returned (.tuple #[.int .i64 (-1), .bool false]) ∧ j = f ∧ ∀ n, Of t.es m1.hash n → (n : Int) ≤ told)) := by
  have hP : 2 ^ t.L ≤ 1048576 := Nat.le_trans (Nat.pow_le_pow_right (n := 2) (by decide) hO.sz.2) (by decide)
  have hlen : t.es.length ≤ 100000 := Nat.le_trans hO.few hO.all
  have hlt := hA.lt
  have hle := hA.le
  have lS := Blk.lt hA.sk (by omega)
  have key : ∀ w6 b', Ex (fun k => k = s ∨ mB (.pointer pr) k) wS w6 → Ms w6 (.pointer pr) a b' 0 0 → Rb w d g q ev t (.pointer pr) most v a b' y sv m1 z1 s w6 := fun w6 b' hx hm => by
    have hbig := hA.big
    refine ⟨hA.dc.same fun k hk => hx.block k (hA.dc.lt k hk) (fun h => ?_), hm, hA.rm.same (hx.block y (by omega) (fun h => ?_)), ?_, Nat.lt_of_lt_of_le hA.big hx.size, Nat.lt_of_lt_of_le lS hx.size, hres.same (hx.block _ hA.big (fun h => ?_))⟩
    · rcases h with h | h
      · exact hA.nc (h ▸ hk)
      · exact hA.dc.mp k h hk
    · rcases h with h | h
      · exact hA.ns h.symm
      · exact nmy h
    · refine (hA.ex.mono (fun k _ h => .inr (.inr (.inl h)))).next hx (fun k hk h => ?_)
      rcases h with h | h
      · rcases hA.sf with z | z
        · exact .inr (.inr (.inr (by rw [h]; exact z)))
        · omega
      · exact .inr (.inl h)
    · rcases h with h | h
      · exact hA.nr h.symm
      · have := hM.lt _ h; omega
  refine (rnext_s hA.dc.rt hO.inv hA.ms (s := s) (i := i) (vis := i) (f := f) ⟨fun e => hA.nc (.inr (.inl e)), fun e => hA.nc (.inr (.inr (.inl e))), fun e => hA.nc (.inr (.inr (.inr e)))⟩ hA.nm hA.sk hA.td hA.ff hA.le hA.lt (by omega) hb hA.ge hlen).mono ?_
  rintro e w6 ⟨j, h1, h2, h⟩
  have e1 : i + (j + 1 - i) = j + 1 := by omega
  rcases h with ⟨n, rfl, o1, l1, c1, a1, b1, m1', hN⟩ | ⟨rfl, rfl, hall, hN⟩
  · have hk := hN.bk
    rw [e1] at hk
    exact ⟨j, h1, h2, key w6 _ hN.ex hN.ms, ⟨_, _, _, _, _, _, _, hk⟩, .inl ⟨n, rfl, o1, l1, ⟨m1', c1, a1⟩, hk⟩⟩
  · have hk := hN.bk
    rw [e1] at hk
    exact ⟨j, h1, h2, key w6 _ hN.ex hN.ms, ⟨_, _, _, _, _, _, _, hk⟩, .inr ⟨rfl, rfl, hall⟩⟩
/-- A call behind Next, and the turn laid into the result. -/
theorem Rcd.up {w w6 w7 : World} {d g q q' : Nat} {ev ev' : Value} {mr : Value} {a b most : Int} {V : Nat} {T : Tb} {y : Nat} {sv : Value} (hlt : ∀ k, rX d g q ev k → k < w.heap.size) (hlm : ∀ k, mB mr k → k < w.heap.size) (hex : Ex (fun k => rX d g q ev k ∨ mB mr k ∨ k = y ∨ mB sv k) w w6) (h6 : w.heap.size < w6.heap.size) (c : Rcd w6 d g q ev mr (fun k => k = y) a b most V T w7 q' ev') (u : Tu) : Rcd w d g q ev mr (fun k => k = y ∨ mB sv k) a b most V T (putU w7 w.heap.size u) q' ev' := by
  have hb := putU_below (B := w.heap.size) (w := w7) w.heap.size (Nat.le_refl _) u
  refine ⟨c.dc.same fun k hk => putU_other _ _ _ _ ?_, c.ms.same fun k hk => hb.block k (hlm k hk), fun k hk => (c.fx k hk).elim .inl (fun h => .inr (by omega)), ?_⟩
  · rcases c.fx k hk with h | h
    · have := hlt k h; omega
    · omega
  · refine (hex.next c.ex (fun k _ h => ?_)).next (Y := fun k => w.heap.size ≤ k) ⟨hb.os, hb.tape, hb.output, hb.size, fun k _ hn => hb.block k (by omega)⟩ (fun k hk hy => by omega)
    rcases h with h | h | h
    · exact .inl h
    · exact .inr (.inl h)
    · exact .inr (.inr (.inl h))
/-- Where a machine's Seeker stands as it goes on. -/
def StR (w : World) (g : Nat) (t : Tb) (sv : Value) (v : Nat) (m : Ma) (s i : Nat) (told : Int) (f sc : Nat) : Prop := (sv = .pointer none ∨ m.ver ≠ v) ∧ i = 0 ∧ told = -1 ∧ sc = m.scans + 1 ∧ w.heap.size ≤ s ∧ f < 2 ^ t.L + 13 ∧ IsF t.c (uw m.hash) t.L f ∨ (sv ≠ .pointer none ∧ m.ver = v) ∧ sv = .pointer (some ⟨s, 0, none⟩) ∧ sc = m.scans ∧ S2 w s g t m.hash i told ∧ IsF t.c (uw m.hash) t.L f
/-- What a step tells and leaves, its Seeker at place i. -/
def RsR (w : World) (d g q : Nat) (ev : Value) (t : Tb) (mr : Value) (y : Nat) (sv : Value) (a b : Int) (most : Int) (v : Nat) (m1 : Ma) (z1 : Rz) (s i : Nat) (told : Int) (f : Nat) (u : Tu) (w' : World) : Prop :=
  ∃ j, i ≤ j ∧ j ≤ f ∧
    ((∃ n : Nat, Of t.es m1.hash n ∧ told < (n : Int) ∧ ((∀ k, Of t.es m1.hash k → told < (k : Int) → n ≤ k) ∧ t.c (trl (uw m1.hash) t.L j) = (n : Int) ∧ Told t.es t.L t.c m1.hash j told) ∧
        (((nth t.es n).key = m1.key ∧ u = ⟨2, 0, true, (nth t.es n).value, (n : Int)⟩ ∧ Rcd w d g q ev mr (fun k => k = y ∨ mB sv k) a (b + ((j + 1 - i : Nat) : Int)) most (hitN m1.goal v) (hitT m1 t n) w' q ev ∧ Rm w' y (.pointer (some ⟨s, 0, none⟩)) d m1 { z1 with at_ := (n : Int), over := true, u := u } ∧ V2 w' s (j + 1)) ∨
         ((nth t.es n).key ≠ m1.key ∧ u = ⟨1, (nth t.es n).key, false, 0, 0⟩ ∧ Rcd w d g q ev mr (fun k => k = y ∨ mB sv k) a (b + ((j + 1 - i : Nat) : Int)) most v t w' q ev ∧ Rm w' y (.pointer (some ⟨s, 0, none⟩)) d m1 { z1 with at_ := (n : Int), waits := true, u := u } ∧ S2 w' s g t m1.hash (j + 1) (n : Int)))) ∨
     (j = f ∧ (∀ n, Of t.es m1.hash n → (n : Int) ≤ told) ∧ MsR m1 t most u (fun da dv t' => ∃ q' ev', Rcd w d g q ev mr (fun k => k = y ∨ mB sv k) (a + da) (b + ((j + 1 - i : Nat) : Int)) most (v + dv) t' w' q' ev' ∧ ¬ rX d g q' ev' s) ∧ Rm w' y (.pointer (some ⟨s, 0, none⟩)) d m1 { z1 with over := true, u := u } ∧ V2 w' s (j + 1)))
end Go.Proofs.YtejfmajbggmghaaGreat
