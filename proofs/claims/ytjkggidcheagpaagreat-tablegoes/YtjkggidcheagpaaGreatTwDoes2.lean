/-
  The law's does: Put, Kill, At, Clear, and steps of no kind.
-/
import Derived.Test.YtjkggidcheagpaaGreatTwDoes1
namespace Go.Proofs.YtjkggidcheagpaaGreat
open Go.RowKit Go.WideShapes

/-- A call on both that counts nothing, in the places that there were. -/
theorem Tw.both' {w w1 w2 : World} {X : Nat} {p : Pl} {t t' : Tb} {mv mr : Value} {M : Int → Int → World → Prop} {a b : Int} (hT : Tw w X p t mv mr M a b) (hMo : MtOk mv M)
    (hd : Dt w1 p.g p.gi p.r p.h p.ev t' mv) (x1 : Ex p.d w w1) (hr : RtS w2 p.g2 p.ev2 p.q2 t' mr) (x2 : Ex p.e w1 w2) (ok : t'.Ok) (tr : Turned t t') :
    Tw w2 X p t' mv mr M a b ∧ (∀ k, p.all X k → p.all X k ∨ w.heap.size ≤ k) ∧ Ex (fun k => p.all X k ∨ mB mv k ∨ mB mr k) w w2 := by
  obtain ⟨lab, sp⟩ := hT.sep
  have hm : M a b w1 := hMo.same _ _ _ _ hT.m fun k hk => x1.block k (sp.m k hk).2 (fun hx => by have := sp.d k hx; have := (sp.m k hk).1; omega)
  have x1' : Ex (fun j => p.d j ∨ mB mv j) w w1 := x1.mono (fun _ _ h => .inl h)
  have hms : Ms w2 mr a b 0 0 := (hT.mid x1').2.1.same fun k hk => x2.block k (Nat.lt_of_lt_of_le (sp.r k hk).2 x1.size) (fun hx => by have := sp.e k hx; have := (sp.r k hk).1; omega)
  exact Tw.both hT hMo hd (fun j hj => .inl hj) hm x1' hr (fun j hj => .inl hj) hms (x2.mono (fun _ _ h => .inl h)) ok tr
theorem Bd.up {t t' : Tb} {a b : Int} {n : Nat} (h : Bd t a b n) (h1 : t'.births = t.births) (h2 : t'.made = t.made) (h3 : t'.turn ≤ t.turn + 1) : Bd t' a b (n + 1) := by
  obtain ⟨d1, d2, d3, d4, d5, d6, d7⟩ := h
  exact ⟨by omega, by omega, by omega, d4, by omega, d6, by omega⟩
set_option maxRecDepth 100000 in
set_option maxHeartbeats 4000000 in
theorem does_put {w : World} {X : Nat} {p : Pl} {t : Tb} {pm pr : Option Addr} {M : Int → Int → World → Prop} {a b : Int} {n : Nat} (hT : Tw w X p t (.pointer pm) (.pointer pr) M a b) (hMo : MtOk (.pointer pm) M) (hBd : Bd t a b n) (hn : n ≤ 2000) (x1 x2 x3 x4 : Int) :
    Calls Tryz.prog 10 #[.pointer (some ⟨X, 0, none⟩), .agg #[.int .i64 2, .int .i64 x1, .int .i64 x2, .int .i64 x3, .int .i64 x4]] w fun e w' => e = .returned (.bool true) ∧ ∃ p' a' b', Dn w X p (.pointer pm) (.pointer pr) M (n + 1) p' (t.step 2 x1 x2 x3 x4) a' b' w' := by
  obtain ⟨w0, hw0⟩ : ∃ y, (w.alloc (.cells #[.int .i64 2, .int .i64 x1, .int .i64 x2, .int .i64 x3, .int .i64 x4] 47)).drew = y := ⟨_, rfl⟩
  have hb : Below w.heap.size w w0 := by rw [← hw0]; exact ((Below.refl _ w).alloc (Nat.le_refl _) _).drew
  have hT0 := hT.below hMo hb
  have HSE : Hid (∀ V, Ex (fun k => p.d k ∨ p.e k ∨ mB (.pointer pm) k ∨ mB (.pointer pr) k) w0 V → V.cell? ⟨X, 0, none⟩ = some (.pointer (some ⟨p.g, 0, none⟩)) ∧ V.cell? ⟨X, 1, none⟩ = some (.pointer (some ⟨p.g2, 0, none⟩)) ∧ V.cell? ⟨w.heap.size, 4, none⟩ = some (.int .i64 x4) ∧ V.cell? ⟨w.heap.size, 3, none⟩ = some (.int .i64 x3)) := fun V hV => by
    obtain ⟨⟨⟨q0, q1⟩, q2, q3⟩, ⟨r0, r1⟩, r2, r3, r4⟩ := hT.seen hMo hw0 hV
    exact ⟨q0, q1, r4, r3⟩
  have s0 := HSE.out w0 (Ex.refl _ _)
  have hlen : t.es.length ≤ 100000 := Nat.le_trans hT.ok.few hT.ok.all
  have htu : t.turn ≤ 1000000 := by have := hBd.2.2.1; omega
  have HW0 := Lib.hid hw0
  have HB := Lib.hid hb
  have HT0 := Lib.hid hT0
  have HT := Lib.hid hT
  have HMo := Lib.hid hMo
  have HBD := Lib.hid hBd
  rw [← HW0.out] at s0
  rcases has_cases t x4 with ⟨m, rfl, hm, hl⟩ | hno
  · have C1 := put7_yes hT0.dt m x3 hm hl
    have C2 : Hid (∀ V, Ex (fun j => p.d j ∨ mB (.pointer pm) j) w0 V → Calls Tryz.prog 30 #[.pointer (some ⟨p.g2, 0, none⟩), .int .i64 (m : Int), .int .i64 x3] V fun e w' => e = .returned (.int .i64 0) ∧ RtS w' p.g2 p.ev2 p.q2 (t.putv m x3) (.pointer pr) ∧ Ex (fun k => p.ev2.ownBlock = some k) V w') := fun V hV => rput_yes_s (HT0.out.mid hV).1 m x3 hm hl
    clear hw0 hb hT0 hT hMo hBd
    go_enter Tryz.func10, Tryz.ntmps10
    go_upto_region 7 with fail
    go_region_held3 (fun V => V.cell? ⟨X, 0, none⟩ = some (.pointer (some ⟨p.g, 0, none⟩)) ∧ V.cell? ⟨X, 1, none⟩ = some (.pointer (some ⟨p.g2, 0, none⟩)) ∧ V.cell? ⟨w.heap.size, 4, none⟩ = some (.int .i64 (m : Int)) ∧ V.cell? ⟨w.heap.size, 3, none⟩ = some (.int .i64 x3))
      (first | with_reducible exact s0 | with_reducible exact s1 | with_reducible exact s2 | fail)
      (first | (go_at_call 29; rw [HW0.out]; refine C1.mono ?_; rintro e w1 ⟨rfl, hD1, hx1⟩; have hX1 : Ex p.d w0 w1 := hx1.mono (fun k _ hk => .inr (.inr (.inr (.inr hk)))); have s1 := HSE.out w1 (hX1.mono (fun k _ hk => .inl hk))) | (go_at_call 30; refine (C2.out _ (hX1.mono (fun k _ hk => .inl hk))).mono ?_; rintro e w2 ⟨rfl, hR2, hx2⟩; have hX2 : Ex p.e w1 w2 := hx2.mono (fun k _ hk => .inr (.inr hk)); have s2 := HSE.out w2 ((hX1.mono (fun k _ hk => .inl hk)).next hX2 (fun k _ hk => .inr (.inl hk)))) | fail)
    have HF := Lib.hid (dn_of (n := n + 1) HB.out (Tw.both' HT0.out HMo.out hD1 hX1 hR2 hX2 (HT0.out.ok.putv m hm hl x3) (turned_put t m x3 hm)) (HBD.out.up rfl rfl (Nat.le_succ _)))
    clear hD1 hX1 hR2 hX2 hx1 hx2 s0 s1 s2 C1 C2
    go_wp2_with fail
    go_ret
    exact ⟨rfl, _, _, _, by rw [step_put _ _ _ _ m hm hl]; exact HF.out⟩
  · have C1 := put7_no hT0.dt x4 x3 hno
    have C2 := rput_no_s hT0.rt x4 x3 hno
    have HF := Lib.hid (fun V hV => dn_same (w' := V) hT hMo hV hBd)
    clear hw0 hb hT0 hT hMo hBd
    go_enter Tryz.func10, Tryz.ntmps10
    go_upto_region 7 with fail
    go_region_held3 (fun V => V.cell? ⟨X, 0, none⟩ = some (.pointer (some ⟨p.g, 0, none⟩)) ∧ V.cell? ⟨X, 1, none⟩ = some (.pointer (some ⟨p.g2, 0, none⟩)) ∧ V.cell? ⟨w.heap.size, 4, none⟩ = some (.int .i64 x4) ∧ V.cell? ⟨w.heap.size, 3, none⟩ = some (.int .i64 x3))
      (first | with_reducible exact s0 | fail)
      (first | (go_at_call 29; rw [HW0.out]; refine C1.mono ?_; rintro e w1 ⟨rfl, rfl⟩; rw [← HW0.out]) | (go_at_call 30; rw [HW0.out]; refine C2.mono ?_; rintro e w2 ⟨rfl, rfl⟩; rw [← HW0.out]) | fail)
    rw [HW0.out]
    clear C1 C2 s0
    go_wp2_with fail
    go_ret
    exact ⟨rfl, _, _, _, by rw [step_put_no _ _ _ _ _ hno]; exact HF.out _ HB.out⟩
set_option maxRecDepth 100000 in
set_option maxHeartbeats 4000000 in
theorem does_kill {w : World} {X : Nat} {p : Pl} {t : Tb} {pm pr : Option Addr} {M : Int → Int → World → Prop} {a b : Int} {n : Nat} (hT : Tw w X p t (.pointer pm) (.pointer pr) M a b) (hMo : MtOk (.pointer pm) M) (hBd : Bd t a b n) (hn : n ≤ 2000) (x1 x2 x3 x4 : Int) :
    Calls Tryz.prog 10 #[.pointer (some ⟨X, 0, none⟩), .agg #[.int .i64 3, .int .i64 x1, .int .i64 x2, .int .i64 x3, .int .i64 x4]] w fun e w' => e = .returned (.bool true) ∧ ∃ p' a' b', Dn w X p (.pointer pm) (.pointer pr) M (n + 1) p' (t.step 3 x1 x2 x3 x4) a' b' w' := by
  obtain ⟨w0, hw0⟩ : ∃ y, (w.alloc (.cells #[.int .i64 3, .int .i64 x1, .int .i64 x2, .int .i64 x3, .int .i64 x4] 47)).drew = y := ⟨_, rfl⟩
  have hb : Below w.heap.size w w0 := by rw [← hw0]; exact ((Below.refl _ w).alloc (Nat.le_refl _) _).drew
  have hT0 := hT.below hMo hb
  have HSE : Hid (∀ V, Ex (fun k => p.d k ∨ p.e k ∨ mB (.pointer pm) k ∨ mB (.pointer pr) k) w0 V → V.cell? ⟨X, 0, none⟩ = some (.pointer (some ⟨p.g, 0, none⟩)) ∧ V.cell? ⟨X, 1, none⟩ = some (.pointer (some ⟨p.g2, 0, none⟩)) ∧ V.cell? ⟨w.heap.size, 4, none⟩ = some (.int .i64 x4)) := fun V hV => by
    obtain ⟨⟨⟨q0, q1⟩, q2, q3⟩, ⟨r0, r1⟩, r2, r3, r4⟩ := hT.seen hMo hw0 hV
    exact ⟨q0, q1, r4⟩
  have s0 := HSE.out w0 (Ex.refl _ _)
  have hlen : t.es.length ≤ 100000 := Nat.le_trans hT.ok.few hT.ok.all
  have htu : t.turn ≤ 1000000 := by have := hBd.2.2.1; omega
  have HW0 := Lib.hid hw0
  have HB := Lib.hid hb
  have HT0 := Lib.hid hT0
  have HT := Lib.hid hT
  have HMo := Lib.hid hMo
  have HBD := Lib.hid hBd
  rw [← HW0.out] at s0
  rcases has_cases t x4 with ⟨m, rfl, hm, hl⟩ | hno
  · have C1 := kill_yes hT0.dt hT0.ok m hm hl htu
    have C2 : Hid (∀ V, Ex (fun j => p.d j ∨ mB (.pointer pm) j) w0 V → Calls Tryz.prog 32 #[.pointer (some ⟨p.g2, 0, none⟩), .int .i64 (m : Int)] V fun e w' => e = .returned (.int .i64 0) ∧ RtS w' p.g2 p.ev2 p.q2 (t.kill m) (.pointer pr) ∧ Ex (fun k => k = p.g2 ∨ k = p.q2 ∨ p.ev2.ownBlock = some k) V w') := fun V hV => rkill_yes_s (HT0.out.mid hV).1 m hm hl hlen htu
    clear hw0 hb hT0 hT hMo hBd
    go_enter Tryz.func10, Tryz.ntmps10
    go_upto_region 9 with fail
    go_region_held3 (fun V => V.cell? ⟨X, 0, none⟩ = some (.pointer (some ⟨p.g, 0, none⟩)) ∧ V.cell? ⟨X, 1, none⟩ = some (.pointer (some ⟨p.g2, 0, none⟩)) ∧ V.cell? ⟨w.heap.size, 4, none⟩ = some (.int .i64 (m : Int)))
      (first | with_reducible exact s0 | with_reducible exact s1 | with_reducible exact s2 | fail)
      (first | (go_at_call 31; rw [HW0.out]; refine C1.mono ?_; rintro e w1 ⟨rfl, hD1, hx1⟩; have hX1 : Ex p.d w0 w1 := hx1.mono (fun k _ hk => hk); have s1 := HSE.out w1 (hX1.mono (fun k _ hk => .inl hk))) | (go_at_call 32; refine (C2.out _ (hX1.mono (fun k _ hk => .inl hk))).mono ?_; rintro e w2 ⟨rfl, hR2, hx2⟩; have hX2 : Ex p.e w1 w2 := hx2.mono (fun k _ hk => hk); have s2 := HSE.out w2 ((hX1.mono (fun k _ hk => .inl hk)).next hX2 (fun k _ hk => .inr (.inl hk)))) | fail)
    have HF := Lib.hid (dn_of (n := n + 1) HB.out (Tw.both' HT0.out HMo.out hD1 hX1 hR2 hX2 (HT0.out.ok.kill m hm hl) (.inl (Nat.lt_succ_self _))) (HBD.out.up rfl rfl (Nat.le_refl _)))
    clear hD1 hX1 hR2 hX2 hx1 hx2 s0 s1 s2 C1 C2
    go_wp2_with fail
    go_ret
    exact ⟨rfl, _, _, _, by rw [step_kill _ _ _ _ m hm hl]; exact HF.out⟩
  · have C1 := kill_no hT0.dt x4 hno
    have C2 := rkill_no_s hT0.rt x4 hno
    have HF := Lib.hid (fun V hV => dn_same (w' := V) hT hMo hV hBd)
    clear hw0 hb hT0 hT hMo hBd
    go_enter Tryz.func10, Tryz.ntmps10
    go_upto_region 9 with fail
    go_region_held3 (fun V => V.cell? ⟨X, 0, none⟩ = some (.pointer (some ⟨p.g, 0, none⟩)) ∧ V.cell? ⟨X, 1, none⟩ = some (.pointer (some ⟨p.g2, 0, none⟩)) ∧ V.cell? ⟨w.heap.size, 4, none⟩ = some (.int .i64 x4))
      (first | with_reducible exact s0 | fail)
      (first | (go_at_call 31; rw [HW0.out]; refine C1.mono ?_; rintro e w1 ⟨rfl, rfl⟩; rw [← HW0.out]) | (go_at_call 32; rw [HW0.out]; refine C2.mono ?_; rintro e w2 ⟨rfl, rfl⟩; rw [← HW0.out]) | fail)
    rw [HW0.out]
    clear C1 C2 s0
    go_wp2_with fail
    go_ret
    exact ⟨rfl, _, _, _, by rw [step_kill_no _ _ _ _ _ hno]; exact HF.out _ HB.out⟩
end Go.Proofs.YtjkggidcheagpaaGreat
