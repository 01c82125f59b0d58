/-
  The law's does on a zero table: Add, Clear, Copy.
  The law's does on a zero table: what turns nothing.
  The law's does on a zero table: Seek.
-/
import Derived.Test.YtdjabdmnknlaeaaGreatZtm
namespace Go.Proofs.YtdjabdmnknlaeaaGreat
open Go.RowKit Go.WideShapes

set_option maxRecDepth 100000 in
set_option maxHeartbeats 4000000 in
theorem does_add_z {w : World} {X : Nat} {p : Pl} {t : Tb} {a b : Int} {n : Nat} (hT : Tv w X p t (.pointer none) (.pointer none) noM a b) (hZ : Zt w p.g) (hp : Zp p) (htn : t = Tb.new) (hBd : Bd t a b n) (hn : n ≤ 2000) (x1 x2 x3 x4 : Int) :
    Calls Tryz.prog 10 #[.pointer (some ⟨X, 0, none⟩), .agg #[.int .i64 1, .int .i64 x1, .int .i64 x2, .int .i64 x3, .int .i64 x4]] w fun e w' => e = .returned (.bool true) ∧ ∃ p' a' b', Dn w X p (.pointer none) (.pointer none) noM (n + 1) p' (t.step 1 x1 x2 x3 x4) a' b' w' := by
  have hMo : MtOk (.pointer none) noM := mtOk_nil
  obtain ⟨w0, hw0⟩ : ∃ y, (w.alloc (.cells #[.int .i64 1, .int .i64 x1, .int .i64 x2, .int .i64 x3, .int .i64 x4] 51)).drew = y := ⟨_, rfl⟩
  have hb : Below w.heap.size w w0 := by rw [← hw0]; exact ((Below.refl _ w).alloc (Nat.le_refl _) _).drew
  have hT0 := hT.below hMo hb
  obtain ⟨d1, d2, d3, d4, d5, d6, d7⟩ := hBd
  have C1 := add_zq (hZ.same (hb.block p.g (hZ.lt (by omega)))) hp htn a b x1 x2 x3
  have had := t.add_made x1 x2 x3
  have HSE : Hid (∀ V, Ex (fun k => p.d k ∨ p.e k ∨ mB (.pointer none) k ∨ mB (.pointer none) k) w0 V → V.cell? ⟨X, 0, none⟩ = some (.pointer (some ⟨p.g, 0, none⟩)) ∧ V.cell? ⟨w.heap.size, 1, none⟩ = some (.int .i64 x1) ∧ V.cell? ⟨w.heap.size, 2, none⟩ = some (.int .i64 x2) ∧ V.cell? ⟨w.heap.size, 3, none⟩ = some (.int .i64 x3)) := fun V hV => by
    obtain ⟨⟨⟨q0, q1⟩, q2, q3⟩, ⟨r0, r1⟩, r2, r3, r4⟩ := hT.seen hMo hw0 hV
    exact ⟨q0, r1, r2, r3⟩
  have HSE2 : Hid (∀ V, Ex (fun k => p.d k ∨ p.e k ∨ mB (.pointer none) k ∨ mB (.pointer none) k) w0 V → V.cell? ⟨X, 1, none⟩ = some (.pointer (some ⟨p.g2, 0, none⟩)) ∧ V.cell? ⟨w.heap.size, 1, none⟩ = some (.int .i64 x1) ∧ V.cell? ⟨w.heap.size, 2, none⟩ = some (.int .i64 x2) ∧ V.cell? ⟨w.heap.size, 3, none⟩ = some (.int .i64 x3)) := fun V hV => by
    obtain ⟨⟨⟨q0, q1⟩, q2, q3⟩, ⟨r0, r1⟩, r2, r3, r4⟩ := hT.seen hMo hw0 hV
    exact ⟨q1, r1, r2, r3⟩
  have s0 := HSE.out w0 (Ex.refl _ _)
  have HW0 := Lib.hid hw0
  have HB := Lib.hid hb
  have HT0 := Lib.hid hT0
  have HMo := Lib.hid hMo
  clear hw0 hb hT0 hT hMo
  go_enter Tryz.func10, Tryz.ntmps10
  go_upto_region 3 with fail
  have s0' := s0
  rw [← HW0.out] at s0'
  go_region_held3 (fun V => V.cell? ⟨X, 0, none⟩ = some (.pointer (some ⟨p.g, 0, none⟩)) ∧ V.cell? ⟨w.heap.size, 1, none⟩ = some (.int .i64 x1) ∧ V.cell? ⟨w.heap.size, 2, none⟩ = some (.int .i64 x2) ∧ V.cell? ⟨w.heap.size, 3, none⟩ = some (.int .i64 x3))
    (first | with_reducible exact s0' | with_reducible exact s1 | fail)
    (first | (go_at_call 7; rw [HW0.out]; refine C1.mono ?_; rintro e w1 ⟨rfl, gi', r', h', ev', hA⟩; have s1 := HSE.out w1 (hA.ex.mono (fun k _ hk => hk.elim .inl (fun x => .inr (.inr (.inl x)))))) | fail)
  have hX1 : Ex (fun k => p.d k ∨ p.e k ∨ mB (.pointer none) k ∨ mB (.pointer none) k) w0 w1 := hA.ex.mono (fun k _ hk => hk.elim .inl (fun x => .inr (.inr (.inl x))))
  obtain ⟨hR1, hM1, _⟩ := HT0.out.mid hA.ex
  have hB1d : Below w1.heap.size w1 w1.drew := (Below.refl _ w1).drew
  have C2 := radd_s (hR1.below hB1d) HT0.out.ok (hM1.below hB1d) (by omega) ⟨by omega, by omega⟩ (by omega) (by omega) x1 x2 x3
  have s2 := HSE2.out w1.drew hX1.drew
  have HA := Lib.hid hA
  have HX1 := Lib.hid hX1
  clear hA hX1 hR1 hM1 s0 s0' s1 C1
  go_upto_region 4 with fail
  go_region_held3 (fun V => V.cell? ⟨X, 1, none⟩ = some (.pointer (some ⟨p.g2, 0, none⟩)) ∧ V.cell? ⟨w.heap.size, 1, none⟩ = some (.int .i64 x1) ∧ V.cell? ⟨w.heap.size, 2, none⟩ = some (.int .i64 x2) ∧ V.cell? ⟨w.heap.size, 3, none⟩ = some (.int .i64 x3))
    (first | with_reducible exact s2 | with_reducible exact s3 | fail)
    (first | (go_at_call 23; refine C2.mono ?_; rintro e w2 ⟨rfl, ev2', q2', hq2, he2, hR2, hM2, hx2⟩; have s3 := HSE2.out w2 (HX1.out.drew.next hx2 (fun k hk h => by rcases h with h | h | h | h; exact .inr (.inl (.inl h)); exact .inr (.inl (.inr (.inl h))); exact .inr (.inl (.inr (.inr h))); exact .inr (.inr (.inr h))))) | fail)
  have HF := Lib.hid (dn_of (n := n + 1) HB.out (Tv.both HT0.out HMo.out HA.out.dt HA.out.fx HA.out.m HA.out.ex hR2 (fun j hj => by
    rcases hj with h | h | h
    · exact .inl (.inl h)
    · rcases hq2 with y | y
      · exact .inl (.inr (.inl (h.trans y)))
      · exact .inr (by rw [h]; exact y)
    · rcases he2 j h with y | y
      · exact .inl (.inr (.inr y))
      · exact .inr y) hM2 ((Ex.refl _ w1).drew.next hx2 (fun k hk h => by
        rcases h with h | h | h | h
        · exact .inl (.inl h)
        · exact .inl (.inr (.inl h))
        · exact .inl (.inr (.inr h))
        · exact .inr h)) (HT0.out.ok.add x1 x2 x3 (by omega)) (.inl (by omega))) ⟨by omega, by omega, by omega, by omega, by omega, d6, by omega⟩)
  clear HA hR2 hM2 hx2 hq2 he2 s2 s3 C2 HX1
  go_wp2_with fail
  go_ret
  exact ⟨rfl, _, _, _, by rw [step_add]; exact HF.out⟩
set_option maxRecDepth 100000 in
set_option maxHeartbeats 4000000 in
theorem does_clear_z {w : World} {X : Nat} {p : Pl} {t : Tb} {a b : Int} {n : Nat} (hT : Tv w X p t (.pointer none) (.pointer none) noM a b) (hZ : Zt w p.g) (hp : Zp p) (htn : t = Tb.new) (hBd : Bd t a b n) (hn : n ≤ 2000) (x1 x2 x3 x4 : Int) :
    Calls Tryz.prog 10 #[.pointer (some ⟨X, 0, none⟩), .agg #[.int .i64 5, .int .i64 x1, .int .i64 x2, .int .i64 x3, .int .i64 x4]] w fun e w' => e = .returned (.bool true) ∧ ∃ p' a' b', Dn w X p (.pointer none) (.pointer none) noM (n + 1) p' (t.step 5 x1 x2 x3 x4) a' b' w' := by
  have hMo : MtOk (.pointer none) noM := mtOk_nil
  obtain ⟨w0, hw0⟩ : ∃ y, w.alloc (.cells #[.int .i64 5, .int .i64 x1, .int .i64 x2, .int .i64 x3, .int .i64 x4] 51) = y := ⟨_, rfl⟩
  have hb : Below w.heap.size w w0 := by rw [← hw0]; exact (Below.refl _ w).alloc (Nat.le_refl _) _
  have hT0 := hT.below hMo hb
  obtain ⟨d1, d2, d3, d4, d5, d6, d7⟩ := hBd
  have C1 := clear_zq (hZ.same (hb.block p.g (hZ.lt (by omega)))) hp htn a b
  have s0 : w0.cell? ⟨X, 0, none⟩ = some (.pointer (some ⟨p.g, 0, none⟩)) := hT0.hx.c 0 (by omega)
  have HW0 := Lib.hid hw0
  have HB := Lib.hid hb
  have HT0 := Lib.hid hT0
  have HMo := Lib.hid hMo
  clear hw0 hb hT0 hT hMo
  have s0' := s0
  rw [← HW0.out] at s0'
  go_enter Tryz.func10, Tryz.ntmps10
  go_upto_region 15 with fail
  rw [HW0.out]
  go_wp2_with fail
  refine C1.mono ?_
  rintro e w1 ⟨rfl, gi', r', h', ev', hA⟩
  clear C1
  obtain ⟨hR1, hM1, hx1⟩ := HT0.out.mid hA.ex
  have s1 : w1.cell? ⟨X, 1, none⟩ = some (.pointer (some ⟨p.g2, 0, none⟩)) := hx1.c 1 (by omega)
  have C2 := rclear_s hR1 hM1 (by omega) ⟨by omega, by omega⟩ (by omega)
  have HA := Lib.hid hA
  clear hA hR1 hM1 hx1 s0 s0'
  go_wp2_with fail
  refine C2.mono ?_
  rintro e w2 ⟨rfl, q2', hq2, hR2, hM2, hx2⟩
  have HF := Lib.hid (dn_of (n := n + 1) HB.out (Tv.both HT0.out HMo.out HA.out.dt HA.out.fx HA.out.m HA.out.ex hR2 (fun j hj => by
    rcases hj with h | h | h
    · exact .inl (.inl h)
    · exact .inr (by rw [h]; exact hq2)
    · cases h) hM2 (hx2.mono (fun k hk h => by
        rcases h with h | h
        · exact .inl (.inl h)
        · exact .inr h)) HT0.out.ok.clear (.inl (Nat.lt_succ_self _))) ⟨by show t.births ≤ _; omega, by show t.made + 1 ≤ _; omega, by show t.turn + 1 ≤ _; omega, by omega, by omega, d6, by omega⟩)
  clear HA hR2 hM2 hx2 hq2 C2 s1
  go_wp2_with fail
  go_ret
  exact ⟨rfl, _, _, _, by rw [step_clear]; exact HF.out⟩
set_option maxRecDepth 100000 in
set_option maxHeartbeats 4000000 in
theorem does_copy_z {w : World} {X : Nat} {p : Pl} {t : Tb} {a b : Int} {n : Nat} (hT : Tv w X p t (.pointer none) (.pointer none) noM a b) (hZ : Zt w p.g) (_hp : Zp p) (htn : t = Tb.new) (hBd : Bd t a b n) (hn : n ≤ 2000) (x1 x2 x3 x4 : Int) :
    Calls Tryz.prog 10 #[.pointer (some ⟨X, 0, none⟩), .agg #[.int .i64 6, .int .i64 x1, .int .i64 x2, .int .i64 x3, .int .i64 x4]] w fun e w' => e = .returned (.bool true) ∧ ∃ p' a' b', Dn w X p (.pointer none) (.pointer none) noM (n + 1) p' (t.step 6 x1 x2 x3 x4) a' b' w' := by
  have hMo : MtOk (.pointer none) noM := mtOk_nil
  obtain ⟨w0, hw0⟩ : ∃ y, w.alloc (.cells #[.int .i64 6, .int .i64 x1, .int .i64 x2, .int .i64 x3, .int .i64 x4] 51) = y := ⟨_, rfl⟩
  have hb : Below w.heap.size w w0 := by rw [← hw0]; exact (Below.refl _ w).alloc (Nat.le_refl _) _
  have hT0 := hT.below hMo hb
  obtain ⟨d1, d2, d3, d4, d5, d6, d7⟩ := hBd
  have C1 := copy_z (a := a) (b := b) (hZ.same (hb.block p.g (hZ.lt (by omega)))) htn hT0.ok hMo hT0.m ⟨by omega, by omega⟩
  have s0 : w0.cell? ⟨X, 0, none⟩ = some (.pointer (some ⟨p.g, 0, none⟩)) := hT0.hx.c 0 (by omega)
  have hcl : (liveL t.es).length ≤ t.births := by have := liveL_len t.es; have := hT.ok.few; omega
  have HW0 := Lib.hid hw0
  have HB := Lib.hid hb
  have HT0 := Lib.hid hT0
  have HMo := Lib.hid hMo
  clear hw0 hb hT0 hT hMo
  have s0' := s0
  rw [← HW0.out] at s0'
  go_enter Tryz.func10, Tryz.ntmps10
  go_upto_region 18 with fail
  rw [HW0.out]
  go_wp2_with fail
  refine C1.mono ?_
  rintro e w1 ⟨g', gi', r', h', ev', rfl, hfd, hD1, hM1, hX1⟩
  clear C1
  obtain ⟨lab, sp⟩ := HT0.out.sep
  have lX := sp.x
  have sX := sp.lt X (.inl rfl)
  have hx1 : Blk w1 X 4 (xF p) := HT0.out.hx.same (hX1.block X sX (fun h => by have := (sp.m X h).1; omega))
  have hmd := HT0.out.mid (hX1.mono (fun k _ h => .inr h))
  have hx2 := hx1.put 0 (.pointer (some ⟨g', 0, none⟩))
  have hR2 : RtS (w1.setCell ⟨X, 0, none⟩ (.pointer (some ⟨g', 0, none⟩))) p.g2 p.ev2 p.q2 t (.pointer none) := hmd.1.same fun k hk => Below.heap_setCell _ _ _ _ (fun (e : k = X) => by have := sp.e k hk; rw [e] at this; omega)
  have hM2 : Ms (w1.setCell ⟨X, 0, none⟩ (.pointer (some ⟨g', 0, none⟩))) (.pointer none) a b 0 0 := hmd.2.1.same fun k hk => Below.heap_setCell _ _ _ _ (fun (e : k = X) => by have := (sp.r k hk).1; rw [e] at this; omega)
  have C2 := rcopy_s hR2 HT0.out.ok hM2 ⟨by omega, by omega⟩
  have c0 : w1.cell? ⟨X, 0, none⟩ = some (.pointer (some ⟨p.g, 0, none⟩)) := hx1.c 0 (by omega)
  have z0 := hx1.z 0
  have c1 : (w1.setCell ⟨X, 0, none⟩ (.pointer (some ⟨g', 0, none⟩))).cell? ⟨X, 1, none⟩ = some (.pointer (some ⟨p.g2, 0, none⟩)) := hx2.c 1 (by omega)
  have HX1 := Lib.hid hX1
  have HD1 := Lib.hid hD1
  have HM1 := Lib.hid hM1
  have HFD := Lib.hid hfd
  have HX2 := Lib.hid hx2
  have HSP := Lib.hid sp
  clear hX1 hD1 hM1 hfd hx1 hx2 hmd hR2 hM2 sp s0 s0'
  go_upto_region 19 with fail
  go_wp2_with fail
  refine C2.mono ?_
  rintro e w3 ⟨g2', q2', ev2', rfl, hg2, hq2, he2, hR3, hM3, hX3⟩
  clear C2
  have hsz : X < (w1.setCell ⟨X, 0, none⟩ (.pointer (some ⟨g', 0, none⟩))).heap.size := by have := HX1.out.size; simp [World.setCell]; omega
  have hx3 := HX2.out.same (hX3.block X hsz (fun h => by have := (HSP.out.r X h).1; omega))
  have e0 : w3.cell? ⟨X, 0, none⟩ = some (.pointer (some ⟨g', 0, none⟩)) := hx3.c 0 (by omega)
  have e1 : w3.cell? ⟨X, 1, none⟩ = some (.pointer (some ⟨p.g2, 0, none⟩)) := hx3.c 1 (by omega)
  have e2 : w3.cell? ⟨X, 2, none⟩ = some p.sp := hx3.c 2 (by omega)
  have y1 := hx3.z 1
  have y2 := hx3.z 2
  have HF := Lib.hid (dn_of (n := n + 1) HB.out (Tv.copied HT0.out HMo.out HD1.out HFD.out HM1.out HX1.out hR3 (fun k hk => by
    rcases hk with h | h | h
    · rw [h]; exact hg2
    · rw [h]; exact hq2
    · exact he2 k h) hM3 hX3 HT0.out.ok.cp) ⟨by show (liveL t.es).length ≤ _; omega, by show 1 ≤ _; omega, by show 0 ≤ _; omega, by omega, by omega, d6, by omega⟩)
  clear hx3 hR3 hM3 hX3 hg2 hq2 he2 HSP HX1 HD1 HM1 HFD HX2 c0 c1 z0
  go_wp2_with fail
  go_ret
  exact ⟨rfl, _, _, _, by rw [step_copy]; exact HF.out⟩
end Go.Proofs.YtdjabdmnknlaeaaGreat
namespace Go.Proofs.YtdjabdmnknlaeaaGreat
open Go.RowKit Go.WideShapes

set_option maxRecDepth 100000 in
set_option maxHeartbeats 4000000 in
theorem does_put_z {w : World} {X : Nat} {p : Pl} {t : Tb} {a b : Int} {n : Nat} (hT : Tv w X p t (.pointer none) (.pointer none) noM a b) (hZ : Zt w p.g) (_hp : Zp p) (htn : t = Tb.new) (hBd : Bd t a b n) (hn : n ≤ 2000) (x1 x2 x3 x4 : Int) :
    Calls Tryz.prog 10 #[.pointer (some ⟨X, 0, none⟩), .agg #[.int .i64 2, .int .i64 x1, .int .i64 x2, .int .i64 x3, .int .i64 x4]] w fun e w' => e = .returned (.bool true) ∧ Below w.heap.size w w' := by
  have hMo : MtOk (.pointer none) noM := mtOk_nil
  obtain ⟨w0, hw0⟩ : ∃ y, (w.alloc (.cells #[.int .i64 2, .int .i64 x1, .int .i64 x2, .int .i64 x3, .int .i64 x4] 51)).drew = y := ⟨_, rfl⟩
  have hb : Below w.heap.size w w0 := by rw [← hw0]; exact ((Below.refl _ w).alloc (Nat.le_refl _) _).drew
  have hT0 := hT.below hMo hb
  have HSE : Hid (∀ V, Ex (fun k => p.d k ∨ p.e k ∨ mB (.pointer none) k ∨ mB (.pointer none) k) w0 V → V.cell? ⟨X, 0, none⟩ = some (.pointer (some ⟨p.g, 0, none⟩)) ∧ V.cell? ⟨X, 1, none⟩ = some (.pointer (some ⟨p.g2, 0, none⟩)) ∧ V.cell? ⟨w.heap.size, 4, none⟩ = some (.int .i64 x4) ∧ V.cell? ⟨w.heap.size, 3, none⟩ = some (.int .i64 x3)) := fun V hV => by
    obtain ⟨⟨⟨q0, q1⟩, q2, q3⟩, ⟨r0, r1⟩, r2, r3, r4⟩ := hT.seen hMo hw0 hV
    exact ⟨q0, q1, r4, r3⟩
  have s0 := HSE.out w0 (Ex.refl _ _)
  have hlen : t.es.length ≤ 100000 := Nat.le_trans hT.ok.few hT.ok.all
  have htu : t.turn ≤ 1000000 := by have := hBd.2.2.1; omega
  have HW0 := Lib.hid hw0
  have HB := Lib.hid hb
  have HT0 := Lib.hid hT0
  have HT := Lib.hid hT
  have HMo := Lib.hid hMo
  have HBD := Lib.hid hBd
  rw [← HW0.out] at s0
  have hno : ¬ t.has x4 := by
    rw [htn]
    rintro ⟨h1, h2, _⟩
    have h3 : x4 < 0 := h2
    omega
  have C1 := put_z (hZ.same (hb.block p.g (hZ.lt (by omega)))) htn x4 x3 hno
  have C2 := rput_no_s hT0.rt x4 x3 hno
  have HF : Hid (∀ V, Below w.heap.size w V → Below w.heap.size w V) := fun V h => h
  clear hw0 hb hT0 hT hMo hBd hZ
  go_enter Tryz.func10, Tryz.ntmps10
  go_upto_region 7 with fail
  go_region_held3 (fun V => V.cell? ⟨X, 0, none⟩ = some (.pointer (some ⟨p.g, 0, none⟩)) ∧ V.cell? ⟨X, 1, none⟩ = some (.pointer (some ⟨p.g2, 0, none⟩)) ∧ V.cell? ⟨w.heap.size, 4, none⟩ = some (.int .i64 x4) ∧ V.cell? ⟨w.heap.size, 3, none⟩ = some (.int .i64 x3))
    (first | with_reducible exact s0 | fail)
    (first | (go_at_call 24; rw [HW0.out]; refine C1.mono ?_; rintro e w1 ⟨rfl, rfl⟩; rw [← HW0.out]) | (go_at_call 25; rw [HW0.out]; refine C2.mono ?_; rintro e w2 ⟨rfl, rfl⟩; rw [← HW0.out]) | fail)
  rw [HW0.out]
  clear C1 C2 s0
  go_wp2_with fail
  go_ret
  exact ⟨rfl, HF.out _ HB.out⟩
set_option maxRecDepth 100000 in
set_option maxHeartbeats 4000000 in
theorem does_kill_z {w : World} {X : Nat} {p : Pl} {t : Tb} {a b : Int} {n : Nat} (hT : Tv w X p t (.pointer none) (.pointer none) noM a b) (hZ : Zt w p.g) (_hp : Zp p) (htn : t = Tb.new) (hBd : Bd t a b n) (hn : n ≤ 2000) (x1 x2 x3 x4 : Int) :
    Calls Tryz.prog 10 #[.pointer (some ⟨X, 0, none⟩), .agg #[.int .i64 3, .int .i64 x1, .int .i64 x2, .int .i64 x3, .int .i64 x4]] w fun e w' => e = .returned (.bool true) ∧ Below w.heap.size w w' := by
  have hMo : MtOk (.pointer none) noM := mtOk_nil
  obtain ⟨w0, hw0⟩ : ∃ y, (w.alloc (.cells #[.int .i64 3, .int .i64 x1, .int .i64 x2, .int .i64 x3, .int .i64 x4] 51)).drew = y := ⟨_, rfl⟩
  have hb : Below w.heap.size w w0 := by rw [← hw0]; exact ((Below.refl _ w).alloc (Nat.le_refl _) _).drew
  have hT0 := hT.below hMo hb
  have HSE : Hid (∀ V, Ex (fun k => p.d k ∨ p.e k ∨ mB (.pointer none) k ∨ mB (.pointer none) k) w0 V → V.cell? ⟨X, 0, none⟩ = some (.pointer (some ⟨p.g, 0, none⟩)) ∧ V.cell? ⟨X, 1, none⟩ = some (.pointer (some ⟨p.g2, 0, none⟩)) ∧ V.cell? ⟨w.heap.size, 4, none⟩ = some (.int .i64 x4)) := fun V hV => by
    obtain ⟨⟨⟨q0, q1⟩, q2, q3⟩, ⟨r0, r1⟩, r2, r3, r4⟩ := hT.seen hMo hw0 hV
    exact ⟨q0, q1, r4⟩
  have s0 := HSE.out w0 (Ex.refl _ _)
  have hlen : t.es.length ≤ 100000 := Nat.le_trans hT.ok.few hT.ok.all
  have htu : t.turn ≤ 1000000 := by have := hBd.2.2.1; omega
  have HW0 := Lib.hid hw0
  have HB := Lib.hid hb
  have HT0 := Lib.hid hT0
  have HT := Lib.hid hT
  have HMo := Lib.hid hMo
  have HBD := Lib.hid hBd
  rw [← HW0.out] at s0
  have hno : ¬ t.has x4 := by
    rw [htn]
    rintro ⟨h1, h2, _⟩
    have h3 : x4 < 0 := h2
    omega
  have C1 := kill_z (hZ.same (hb.block p.g (hZ.lt (by omega)))) htn x4 hno
  have C2 := rkill_no_s hT0.rt x4 hno
  have HF : Hid (∀ V, Below w.heap.size w V → Below w.heap.size w V) := fun V h => h
  clear hw0 hb hT0 hT hMo hBd hZ
  go_enter Tryz.func10, Tryz.ntmps10
  go_upto_region 9 with fail
  go_region_held3 (fun V => V.cell? ⟨X, 0, none⟩ = some (.pointer (some ⟨p.g, 0, none⟩)) ∧ V.cell? ⟨X, 1, none⟩ = some (.pointer (some ⟨p.g2, 0, none⟩)) ∧ V.cell? ⟨w.heap.size, 4, none⟩ = some (.int .i64 x4))
    (first | with_reducible exact s0 | fail)
    (first | (go_at_call 26; rw [HW0.out]; refine C1.mono ?_; rintro e w1 ⟨rfl, rfl⟩; rw [← HW0.out]) | (go_at_call 27; rw [HW0.out]; refine C2.mono ?_; rintro e w2 ⟨rfl, rfl⟩; rw [← HW0.out]) | fail)
  rw [HW0.out]
  clear C1 C2 s0
  go_wp2_with fail
  go_ret
  exact ⟨rfl, HF.out _ HB.out⟩
set_option maxRecDepth 100000 in
theorem does_none_z (w : World) (X : Nat) (x0 x1 x2 x3 x4 : Int) (h0 : ¬ (1 ≤ x0 ∧ x0 ≤ 8)) :
    Calls Tryz.prog 10 #[.pointer (some ⟨X, 0, none⟩), .agg #[.int .i64 x0, .int .i64 x1, .int .i64 x2, .int .i64 x3, .int .i64 x4]] w fun e w' => e = .returned (.bool true) ∧ Below w.heap.size w w' := by
  have hb : Below w.heap.size w (w.alloc (.cells #[.int .i64 x0, .int .i64 x1, .int .i64 x2, .int .i64 x3, .int .i64 x4] 51)) := (Below.refl _ w).alloc (Nat.le_refl _) _
  have HF := Lib.hid hb
  have e1 : (x0 == 1) = false := by rw [beq_eq_false_iff_ne]; omega
  have e2 : (x0 == 2) = false := by rw [beq_eq_false_iff_ne]; omega
  have e3 : (x0 == 3) = false := by rw [beq_eq_false_iff_ne]; omega
  have e4 : (x0 == 4) = false := by rw [beq_eq_false_iff_ne]; omega
  have e5 : (x0 == 5) = false := by rw [beq_eq_false_iff_ne]; omega
  have e6 : (x0 == 6) = false := by rw [beq_eq_false_iff_ne]; omega
  have e7 : (x0 == 7) = false := by rw [beq_eq_false_iff_ne]; omega
  have e8 : (x0 == 8) = false := by rw [beq_eq_false_iff_ne]; omega
  clear hb h0
  go_enter Tryz.func10, Tryz.ntmps10
  go_wp2_with fail
  go_ret
  exact ⟨rfl, HF.out⟩
set_option maxRecDepth 100000 in
theorem does_next_z {w : World} {X : Nat} {p : Pl} (hx : Blk w X 4 (xF p)) (hp : Zp p) (x1 x2 x3 x4 : Int) :
    Calls Tryz.prog 10 #[.pointer (some ⟨X, 0, none⟩), .agg #[.int .i64 8, .int .i64 x1, .int .i64 x2, .int .i64 x3, .int .i64 x4]] w fun e w' => e = .returned (.bool true) ∧ Below w.heap.size w w' := by
  obtain ⟨w0, hw0⟩ : ∃ y, w.alloc (.cells #[.int .i64 8, .int .i64 x1, .int .i64 x2, .int .i64 x3, .int .i64 x4] 51) = y := ⟨_, rfl⟩
  have hb : Below w.heap.size w w0 := by rw [← hw0]; exact (Below.refl _ w).alloc (Nat.le_refl _) _
  have hB0 : Blk w0 w.heap.size 5 (fun j => #[Value.int .i64 8, .int .i64 x1, .int .i64 x2, .int .i64 x3, .int .i64 x4].getD j .nilFunc) := by rw [← hw0]; exact Blk.new w _ _
  have c4 : w0.cell? ⟨w.heap.size, 4, none⟩ = some (.int .i64 x4) := hB0.c 4 (by omega)
  have q2 : w0.cell? ⟨X, 2, none⟩ = some (.pointer none) := by
    have h := (hx.same (hb.block X (hx.lt (by omega)))).c 2 (by omega)
    rw [h]
    show some p.sp = _
    rw [hp.sp]
  have HW0 := Lib.hid hw0
  have HB := Lib.hid hb
  clear hw0 hb hB0 hx hp
  go_enter Tryz.func10, Tryz.ntmps10
  go_wp2_with fail
  rw [HW0.out]
  generalize hbxe : w.heap.size = bx at *
  have HBXE := Lib.hid hbxe
  clear hbxe
  go_loopw [13, 14, 15, 16, 17] (fun iv _ _ _ _ wr => iv = .int .i64 0 ∧ wr = w0) (fun _ _ _ _ _ _ => 0)
  case atStart => exact ⟨rfl, rfl⟩
  case round =>
    obtain ⟨rfl, rfl⟩ := hrel
    by_cases hgo : 0 < x4
    · go_wp2_with fail
      go_ret
      exact ⟨rfl, by rw [HBXE.out]; exact HB.out⟩
    · go_wp2_with fail
      go_ret
      exact ⟨rfl, by rw [HBXE.out]; exact HB.out⟩
end Go.Proofs.YtdjabdmnknlaeaaGreat
namespace Go.Proofs.YtdjabdmnknlaeaaGreat
open Go.RowKit Go.WideShapes

theorem seeks_from {w wz w9 : World} {X : Nat} {p p9 : Pl} {t : Tb} {a b : Int} {gi r h : Nat} {P : Prop} (hT : Tv w X p t (.pointer none) (.pointer none) noM a b) (htn : t = Tb.new) (hA : Az w p.g Tb.new wz gi r h (.slice none 0 0))
    (d : P ∧ (∀ k, p9.all X k → Pl.all { p with gi := gi, r := r, h := h, ev := .slice none 0 0 } X k ∨ wz.heap.size ≤ k) ∧ Ex (fun k => Pl.all { p with gi := gi, r := r, h := h, ev := .slice none 0 0 } X k ∨ mB (.pointer none) k ∨ mB (.pointer none) k) wz w9) :
    P ∧ (∀ k, p9.all X k → p.all X k ∨ w.heap.size ≤ k) ∧ Ex (fun k => p.all X k ∨ mB (.pointer none) k ∨ mB (.pointer none) k) w w9 := by
  obtain ⟨_, h2, h3⟩ := hT.ready htn hA
  refine ⟨d.1, fun k hk => (d.2.1 k hk).elim (h2 k) (fun x => .inr (Nat.le_trans hA.ex.size x)), h3.next d.2.2 (fun k hk x => ?_)⟩
  rcases x with x | x | x
  · exact (h2 k x).elim .inl (fun y => by omega)
  · exact (noB x).elim
  · exact (noB x).elim
set_option maxRecDepth 100000 in
set_option maxHeartbeats 4000000 in
theorem does_seek_z {w : World} {X : Nat} {p : Pl} {t : Tb} {a b : Int} {n : Nat} (hT : Tv w X p t (.pointer none) (.pointer none) noM a b) (hZ : Zt w p.g) (htn : t = Tb.new) (hBd : Bd t a b n) (x1 x2 x3 x4 : Int) :
    Calls Tryz.prog 10 #[.pointer (some ⟨X, 0, none⟩), .agg #[.int .i64 7, .int .i64 x1, .int .i64 x2, .int .i64 x3, .int .i64 x4]] w fun e w' => e = .returned (.bool true) ∧ ∃ p' a' b', Dn w X p (.pointer none) (.pointer none) noM (n + 1) p' (t.step 7 x1 x2 x3 x4) a' b' w' := by
  have hMo : MtOk (.pointer none) noM := mtOk_nil
  obtain ⟨w0, hw0⟩ : ∃ y, w.alloc (.cells #[.int .i64 7, .int .i64 x1, .int .i64 x2, .int .i64 x3, .int .i64 x4] 51) = y := ⟨_, rfl⟩
  have hb : Below w.heap.size w w0 := by rw [← hw0]; exact (Below.refl _ w).alloc (Nat.le_refl _) _
  have hbd : Below w.heap.size w w0.drew := hb.drew
  have hT0 := hT.below hMo hb
  have hTd := hT.below hMo hbd
  have C1 := seek_z (hZ.same (hbd.block p.g (hZ.lt (by omega))) : Zt w0.drew p.g) x1
  rw [show Tb.new.turn = t.turn by rw [htn], show Tb.new.L = t.L by rw [htn]] at C1
  have HSE : Hid (∀ V, Ex (fun k => p.d k ∨ p.e k ∨ mB (.pointer none) k ∨ mB (.pointer none) k) w0.drew V → (V.cell? ⟨X, 0, none⟩ = some (.pointer (some ⟨p.g, 0, none⟩)) ∧ V.cell? ⟨w.heap.size, 1, none⟩ = some (.int .i64 x1)) ∧ V.cell? ⟨X, 1, none⟩ = some (.pointer (some ⟨p.g2, 0, none⟩))) := fun V hV => by
    obtain ⟨⟨⟨q0, q1⟩, q2, q3⟩, ⟨r0, r1⟩, r2, r3, r4⟩ := hT.seen (w0 := w0.drew) hMo (by rw [← hw0]) hV
    exact ⟨⟨q0, r1⟩, q1⟩
  obtain ⟨⟨s0, s0b⟩, _⟩ := HSE.out w0.drew (Ex.refl _ _)
  have HXB : Hid (∀ V, Ex (fun k => p.d k ∨ p.e k ∨ mB (.pointer none) k ∨ mB (.pointer none) k) w0.drew V → Blk V X 4 (xF p)) := fun V hV => by
    obtain ⟨lab, sp⟩ := hTd.sep
    refine hTd.hx.same (hV.block X (sp.lt X (.inl rfl)) (fun hx => ?_))
    have h0 := sp.x
    rcases hx with y | y | y | y
    · have := sp.d _ y; omega
    · have := sp.e _ y; omega
    · exact noB y
    · exact noB y
  have HBD := Lib.hid hBd
  have HTN := Lib.hid htn
  have hbx : w.heap.size < w0.heap.size := by rw [← hw0]; simp
  have hXx : X < w.heap.size := hT.hx.lt (by omega)
  have HW0 := Lib.hid hw0
  have HB := Lib.hid hbd
  have HT0 := Lib.hid hTd
  have HMo := Lib.hid hMo
  clear hw0 hb hT0 hT hMo hTd hbd hBd hZ htn
  go_enter Tryz.func10, Tryz.ntmps10
  go_upto_region 23 with fail
  rw [HW0.out]
  generalize hbxe : w.heap.size = bx at *
  have HBXE := Lib.hid hbxe
  clear hbxe
  go_region_held3 (fun V => V.cell? ⟨X, 0, none⟩ = some (.pointer (some ⟨p.g, 0, none⟩)) ∧ V.cell? ⟨bx, 1, none⟩ = some (.int .i64 x1))
    (first | with_reducible exact ⟨s0, s0b⟩ | with_reducible exact ⟨s1, s1b⟩ | with_reducible exact ⟨s2, s2b⟩ | fail)
    (first | (go_at_call 34; refine C1.mono ?_; rintro e w1 ⟨s, gi, r, h, wz, rfl, hAz, hs, hK, hb1⟩; have hE1 : Ex (fun j => p.d j ∨ mB (.pointer none) j) w0.drew w1 := (hAz.ex.mono (fun k _ hk => Or.inl (Or.inl hk))).next (ex_of (X := fun _ => False) hb1) (fun _ _ x => x.elim); have hE2 : Ex (fun k => p.d k ∨ p.e k ∨ mB (.pointer none) k ∨ mB (.pointer none) k) w0.drew w1 := hE1.mono (fun k _ hk => hk.elim Or.inl (fun x => (noB x).elim)); obtain ⟨⟨s1, s1b⟩, _⟩ := HSE.out w1 hE2; have hX1 := HXB.out w1 hE2; have c2 : w1.cell? ⟨X, 2, none⟩ = some p.sp := hX1.c 2 (by omega); have z2 := hX1.z 2; have s2 : (w1.setCell ⟨X, 2, none⟩ (.pointer (some ⟨s, 0, none⟩))).cell? ⟨X, 0, none⟩ = some (.pointer (some ⟨p.g, 0, none⟩)) := (hX1.put 2 (.pointer (some ⟨s, 0, none⟩))).c 0 (by omega); have s2b : (w1.setCell ⟨X, 2, none⟩ (.pointer (some ⟨s, 0, none⟩))).cell? ⟨bx, 1, none⟩ = some (.int .i64 x1) := (World.cell?_of_block (a := ⟨bx, 1, none⟩) (Below.heap_setCell _ _ _ _ (by show bx ≠ X; omega))).trans s1b) | fail)
  clear C1
  obtain ⟨lab, sp⟩ := HT0.out.sep
  have lX := sp.x
  have hR2 : RtS (w1.setCell ⟨X, 2, none⟩ (.pointer (some ⟨s, 0, none⟩))).drew p.g2 p.ev2 p.q2 t (.pointer none) := (HT0.out.mid hE1).1.same fun k hk => Below.heap_setCell w1 _ _ _ (fun (e : k = X) => by have := sp.e k hk; rw [e] at this; omega)
  have C2 := rseek_s hR2 x1
  have hx2 := (hX1.put 2 (.pointer (some ⟨s, 0, none⟩))).same (w' := (w1.setCell ⟨X, 2, none⟩ (.pointer (some ⟨s, 0, none⟩))).drew) rfl
  have t1 : (w1.setCell ⟨X, 2, none⟩ (.pointer (some ⟨s, 0, none⟩))).drew.cell? ⟨X, 1, none⟩ = some (.pointer (some ⟨p.g2, 0, none⟩)) := hx2.c 1 (by omega)
  have t1b : (w1.setCell ⟨X, 2, none⟩ (.pointer (some ⟨s, 0, none⟩))).drew.cell? ⟨bx, 1, none⟩ = some (.int .i64 x1) := s2b
  have HK := Lib.hid hK
  have HB1 := Lib.hid hb1
  have HAZ := Lib.hid hAz
  have HSS := Lib.hid hs
  have hlx : X < (w1.setCell ⟨X, 2, none⟩ (.pointer (some ⟨s, 0, none⟩))).heap.size := by have h1 := hb1.size; have h3 := hAz.ex.size; have h2 : w0.drew.heap.size = w0.heap.size := rfl; simp [World.setCell]; omega
  have hlb : bx < (w1.setCell ⟨X, 2, none⟩ (.pointer (some ⟨s, 0, none⟩))).heap.size := by have h1 := hb1.size; have h3 := hAz.ex.size; have h2 : w0.drew.heap.size = w0.heap.size := rfl; simp [World.setCell]; omega
  have HWW : Hid (∃ y, w1.setCell ⟨X, 2, none⟩ (.pointer (some ⟨s, 0, none⟩)) = y) := ⟨_, rfl⟩
  have HFIN : Hid (∀ s2 w3, (w1.setCell ⟨X, 2, none⟩ (.pointer (some ⟨s, 0, none⟩))).drew.heap.size ≤ s2 → Blk w3 s2 8 (sF p.g2 x1 t.turn (trl (uw x1) t.L 0) (uw x1) false 0 (-1)) → Below (w1.setCell ⟨X, 2, none⟩ (.pointer (some ⟨s, 0, none⟩))).drew.heap.size (w1.setCell ⟨X, 2, none⟩ (.pointer (some ⟨s, 0, none⟩))).drew w3 → ∃ p' a' b', Dn w X p (.pointer none) (.pointer none) noM (n + 1) p' (t.step 7 x1 x2 x3 x4) a' b' (w3.setCell ⟨X, 3, none⟩ (.pointer (some ⟨s2, 0, none⟩)))) := fun s2 w3 h1 h2 h3 =>
    by rw [step_same t 7 x1 x2 x3 x4 ⟨by decide, by decide, by decide, by decide, by decide⟩]; exact ⟨_, _, _, dn_of (n := n + 1) (by rw [HBXE.out]; exact HB.out) (seeks_from HT0.out HTN.out HAZ.out (Tw.seeks (HT0.out.ready HTN.out HAZ.out).1 HMo.out HSS.out HK.out HB1.out h1 h2 ⟨h3.os, h3.tape, h3.output, h3.size, h3.block⟩)) ⟨by have := HBD.out.1; omega, by have := HBD.out.2.1; omega, by have := HBD.out.2.2.1; omega, HBD.out.2.2.2.1, by have := HBD.out.2.2.2.2.1; omega, HBD.out.2.2.2.2.2.1, by have := HBD.out.2.2.2.2.2.2; omega⟩⟩
  clear hK hb1 hs hR2 sp s0 s0b s1 s1b s2 s2b c2 z2 hX1 hE1 hE2 hAz
  go_upto_region 24 with fail
  generalize w1.setCell ⟨X, 2, none⟩ (.pointer (some ⟨s, 0, none⟩)) = w2 at *
  go_region_held3 (fun V => V.cell? ⟨X, 1, none⟩ = some (.pointer (some ⟨p.g2, 0, none⟩)) ∧ V.cell? ⟨bx, 1, none⟩ = some (.int .i64 x1))
    (first | with_reducible exact ⟨t1, t1b⟩ | with_reducible exact ⟨t3, t3b⟩ | with_reducible exact ⟨t4, t4b⟩ | fail)
    (first | (go_at_call 35; refine C2.mono ?_; rintro e w3 ⟨s2, rfl, hs2, hK2, hb2⟩; have t3 := (hb2.cell (p := ⟨X, 1, none⟩) hlx).trans t1; have t3b := (hb2.cell (p := ⟨bx, 1, none⟩) hlb).trans t1b; have hX3 := hx2.of hb2 (by omega); have c3 : w3.cell? ⟨X, 3, none⟩ = some p.kp := hX3.c 3 (by omega); have z3 := hX3.z 3; have t4 : (w3.setCell ⟨X, 3, none⟩ (.pointer (some ⟨s2, 0, none⟩))).cell? ⟨X, 1, none⟩ = some (.pointer (some ⟨p.g2, 0, none⟩)) := (hX3.put 3 (.pointer (some ⟨s2, 0, none⟩))).c 1 (by omega); have t4b : (w3.setCell ⟨X, 3, none⟩ (.pointer (some ⟨s2, 0, none⟩))).cell? ⟨bx, 1, none⟩ = some (.int .i64 x1) := (World.cell?_of_block (a := ⟨bx, 1, none⟩) (Below.heap_setCell _ _ _ _ (by show bx ≠ X; omega))).trans t3b) | fail)
  have HF := Lib.hid (HFIN.out s2 w3 hs2 hK2 hb2)
  have c2 : (w3.setCell ⟨X, 3, none⟩ (.pointer (some ⟨s2, 0, none⟩))).cell? ⟨X, 2, none⟩ = some (.pointer (some ⟨s, 0, none⟩)) := (hX3.put 3 (.pointer (some ⟨s2, 0, none⟩))).c 2 (by omega)
  have hnq := neqS s
  clear C2 hs2 hK2 hb2 hX3 hx2 t1 t1b t3 t3b t4 t4b c3 z3
  go_wp2_with fail
  go_ret
  exact ⟨rfl, HF.out⟩
end Go.Proofs.YtdjabdmnknlaeaaGreat
