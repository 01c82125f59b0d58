/-
  The law's does: Clear, and steps of no kind.
  The law's does: Copy, Seek.
  The law's does: Seek.
-/
import Derived.Test.YtdjabdmnknlaeaaGreatTwm
namespace Go.Proofs.YtdjabdmnknlaeaaGreat
open Go.RowKit Go.WideShapes

set_option maxRecDepth 100000 in
set_option maxHeartbeats 4000000 in
theorem does_clear {w : World} {X : Nat} {p : Pl} {t : Tb} {pm pr : Option Addr} {M : Int → Int → World → Prop} {a b : Int} {n : Nat} (hT : Tw w X p t (.pointer pm) (.pointer pr) M a b) (hMo : MtOk (.pointer pm) M) (hBd : Bd t a b n) (hn : n ≤ 2000) (x1 x2 x3 x4 : Int) :
    Calls Tryz.prog 10 #[.pointer (some ⟨X, 0, none⟩), .agg #[.int .i64 5, .int .i64 x1, .int .i64 x2, .int .i64 x3, .int .i64 x4]] w fun e w' => e = .returned (.bool true) ∧ ∃ p' a' b', Dn w X p (.pointer pm) (.pointer pr) M (n + 1) p' (t.step 5 x1 x2 x3 x4) a' b' w' := by
  obtain ⟨w0, hw0⟩ : ∃ y, w.alloc (.cells #[.int .i64 5, .int .i64 x1, .int .i64 x2, .int .i64 x3, .int .i64 x4] 51) = y := ⟨_, rfl⟩
  have hb : Below w.heap.size w w0 := by rw [← hw0]; exact (Below.refl _ w).alloc (Nat.le_refl _) _
  have hT0 := hT.below hMo hb
  obtain ⟨d1, d2, d3, d4, d5, d6, d7⟩ := hBd
  have C1 := clear7_any hT0.dt hMo hT0.m (by omega) ⟨by omega, by omega⟩ (by omega)
  have s0 : w0.cell? ⟨X, 0, none⟩ = some (.pointer (some ⟨p.g, 0, none⟩)) := hT0.hx.c 0 (by omega)
  have HW0 := Lib.hid hw0
  have HB := Lib.hid hb
  have HT0 := Lib.hid hT0
  have HMo := Lib.hid hMo
  clear hw0 hb hT0 hT hMo
  have s0' := s0
  rw [← HW0.out] at s0'
  go_enter Tryz.func10, Tryz.ntmps10
  go_upto_region 15 with fail
  rw [HW0.out]
  go_wp2_with fail
  refine C1.mono ?_
  rintro e w1 ⟨rfl, gi', r', h', ev', hA⟩
  clear C1
  obtain ⟨hR1, hM1, hx1⟩ := HT0.out.mid hA.ex
  have s1 : w1.cell? ⟨X, 1, none⟩ = some (.pointer (some ⟨p.g2, 0, none⟩)) := hx1.c 1 (by omega)
  have C2 := rclear_s hR1 hM1 (by omega) ⟨by omega, by omega⟩ (by omega)
  have HA := Lib.hid hA
  clear hA hR1 hM1 hx1 s0 s0'
  go_wp2_with fail
  refine C2.mono ?_
  rintro e w2 ⟨rfl, q2', hq2, hR2, hM2, hx2⟩
  have HF := Lib.hid (dn_of (n := n + 1) HB.out (Tw.both HT0.out HMo.out HA.out.dt HA.out.fx HA.out.m HA.out.ex hR2 (fun j hj => by
    rcases hj with h | h | h
    · exact .inl (.inl h)
    · exact .inr (by rw [h]; exact hq2)
    · cases h) hM2 (hx2.mono (fun k hk h => by
        rcases h with h | h
        · exact .inl (.inl h)
        · exact .inr h)) HT0.out.ok.clear (.inl (Nat.lt_succ_self _))) ⟨by show t.births ≤ _; omega, by show t.made + 1 ≤ _; omega, by show t.turn + 1 ≤ _; omega, by omega, by omega, d6, by omega⟩)
  clear HA hR2 hM2 hx2 hq2 C2 s1
  go_wp2_with fail
  go_ret
  exact ⟨rfl, _, _, _, by rw [step_clear]; exact HF.out⟩
set_option maxRecDepth 100000 in
theorem does_none {w : World} {X : Nat} {p : Pl} {t : Tb} {pm pr : Option Addr} {M : Int → Int → World → Prop} {a b : Int} {n : Nat} (hT : Tw w X p t (.pointer pm) (.pointer pr) M a b) (hMo : MtOk (.pointer pm) M) (hBd : Bd t a b n) (x0 x1 x2 x3 x4 : Int) (h0 : ¬ (1 ≤ x0 ∧ x0 ≤ 8)) :
    Calls Tryz.prog 10 #[.pointer (some ⟨X, 0, none⟩), .agg #[.int .i64 x0, .int .i64 x1, .int .i64 x2, .int .i64 x3, .int .i64 x4]] w fun e w' => e = .returned (.bool true) ∧ ∃ p' a' b', Dn w X p (.pointer pm) (.pointer pr) M (n + 1) p' (t.step x0 x1 x2 x3 x4) a' b' w' := by
  have hb : Below w.heap.size w (w.alloc (.cells #[.int .i64 x0, .int .i64 x1, .int .i64 x2, .int .i64 x3, .int .i64 x4] 51)) := (Below.refl _ w).alloc (Nat.le_refl _) _
  have HF := Lib.hid (dn_same hT hMo hb hBd)
  rw [← step_same t x0 x1 x2 x3 x4 ⟨by omega, by omega, by omega, by omega, by omega⟩] at HF
  have e1 : (x0 == 1) = false := by rw [beq_eq_false_iff_ne]; omega
  have e2 : (x0 == 2) = false := by rw [beq_eq_false_iff_ne]; omega
  have e3 : (x0 == 3) = false := by rw [beq_eq_false_iff_ne]; omega
  have e4 : (x0 == 4) = false := by rw [beq_eq_false_iff_ne]; omega
  have e5 : (x0 == 5) = false := by rw [beq_eq_false_iff_ne]; omega
  have e6 : (x0 == 6) = false := by rw [beq_eq_false_iff_ne]; omega
  have e7 : (x0 == 7) = false := by rw [beq_eq_false_iff_ne]; omega
  have e8 : (x0 == 8) = false := by rw [beq_eq_false_iff_ne]; omega
  clear hT hMo hBd hb h0
  go_enter Tryz.func10, Tryz.ntmps10
  go_wp2_with fail
  go_ret
  exact ⟨rfl, _, _, _, HF.out⟩
end Go.Proofs.YtdjabdmnknlaeaaGreat
namespace Go.Proofs.YtdjabdmnknlaeaaGreat
open Go.RowKit Go.WideShapes

/-- Both copied. -/
theorem Tw.copied {w w1 w3 : World} {X : Nat} {p : Pl} {t t' : Tb} {mv mr : Value} {M : Int → Int → World → Prop} {a b a' b' : Int} (hT : Tw w X p t mv mr M a b) (hMo : MtOk mv M) {g' gi' r' h' : Nat} {ev' : Value} {g2' q2' : Nat} {ev2' : Value}
    (hd : Dt w1 g' gi' r' h' ev' t' mv) (fd : ∀ k, dX g' gi' r' h' ev' k → w.heap.size ≤ k) (hm : M a' b' w1) (x1 : Ex (mB mv) w w1)
    (hr : RtS w3 g2' ev2' q2' t' mr) (fr : ∀ k, (k = g2' ∨ k = q2' ∨ ev2'.ownBlock = some k) → (w1.setCell ⟨X, 0, none⟩ (.pointer (some ⟨g', 0, none⟩))).heap.size ≤ k) (hms : Ms w3 mr a' b' 0 0) (x2 : Ex (mB mr) (w1.setCell ⟨X, 0, none⟩ (.pointer (some ⟨g', 0, none⟩))) w3) (ok : t'.Ok) :
    Tw ((w3.setCell ⟨X, 1, none⟩ (.pointer (some ⟨g2', 0, none⟩))).setCell ⟨X, 2, none⟩ (.pointer none)) X ⟨g', gi', r', h', ev', g2', q2', ev2', .pointer none, p.kp⟩ t' mv mr M a' b' ∧
    (∀ k, Pl.all ⟨g', gi', r', h', ev', g2', q2', ev2', .pointer none, p.kp⟩ X k → p.all X k ∨ w.heap.size ≤ k) ∧
    Ex (fun k => p.all X k ∨ mB mv k ∨ mB mr k) w ((w3.setCell ⟨X, 1, none⟩ (.pointer (some ⟨g2', 0, none⟩))).setCell ⟨X, 2, none⟩ (.pointer none)) := by
  obtain ⟨lab, sp⟩ := hT.sep
  have s1 := x1.size
  have s2 := x2.size
  have ss : (w1.setCell ⟨X, 0, none⟩ (.pointer (some ⟨g', 0, none⟩))).heap.size = w1.heap.size := by simp [World.setCell]
  rw [ss] at s2 fr
  have sX := sp.lt X (.inl rfl)
  have lX := sp.x
  have n5 : ∀ k, k ≠ X → ((w3.setCell ⟨X, 1, none⟩ (.pointer (some ⟨g2', 0, none⟩))).setCell ⟨X, 2, none⟩ (.pointer none)).heap[k]? = w3.heap[k]? := fun k hk => by rw [Below.heap_setCell _ _ _ _ hk, Below.heap_setCell _ _ _ _ hk]
  have n2 : ∀ k, k ≠ X → (w1.setCell ⟨X, 0, none⟩ (.pointer (some ⟨g', 0, none⟩))).heap[k]? = w1.heap[k]? := fun k hk => Below.heap_setCell _ _ _ _ hk
  have n3 : ∀ k, k < w1.heap.size → k ≠ X → ¬ mB mr k → w3.heap[k]? = w1.heap[k]? := fun k hk h1 h2 => (x2.block k (by rw [ss]; exact hk) h2).trans (n2 k h1)
  have hX1 : Blk w1 X 4 (xF p) := hT.hx.same (x1.block X sX (fun h => by have := (sp.m X h).1; omega))
  have hX2 := hX1.put 0 (.pointer (some ⟨g', 0, none⟩))
  have hX3 := hX2.same (x2.block X (by rw [ss]; omega) (fun h => by have := (sp.r X h).1; omega))
  have hX5 := (hX3.put 1 (.pointer (some ⟨g2', 0, none⟩))).put 2 (.pointer none)
  have hdl := hd.lt
  refine ⟨⟨?_, ?_, ?_, ok, ?_, ?_, .inl rfl, ?_⟩, ?_, ?_⟩
  · refine hX5.congr fun j hj => ?_
    have : j = 0 ∨ j = 1 ∨ j = 2 ∨ j = 3 := by omega
    rcases this with rfl | rfl | rfl | rfl <;> rfl
  · refine hd.same fun k hk => ?_
    have h1 := fd k hk
    have h2 := hdl k hk
    rw [n5 k (by omega)]
    exact n3 k h2 (by omega) (fun h => by have := (sp.r k h).2; omega)
  · refine hr.same fun k hk => n5 k ?_
    have := fr k hk
    omega
  · refine hMo.same _ _ _ _ hm fun k hk => ?_
    have h1 := sp.m k hk
    have h2 : k ≠ X := fun e => by rw [e] at h1; omega
    rw [n5 k h2]
    exact n3 k (by omega) h2 (fun h => by have := (sp.r k h).1; omega)
  · refine hms.same fun k hk => n5 k ?_
    have h1 := sp.r k hk
    exact fun e => by rw [e] at h1; omega
  · refine ⟨fun k => if k < w.heap.size then lab k else if k < w1.heap.size then 1 else 2, ?_, ?_, ?_, ?_, ?_, ?_, ?_, ?_⟩
    · have hz : ((w3.setCell ⟨X, 1, none⟩ (.pointer (some ⟨g2', 0, none⟩))).setCell ⟨X, 2, none⟩ (.pointer none)).heap.size = w3.heap.size := by simp [World.setCell]
      rw [hz]
      rintro k (rfl | y | y | y | y)
      · omega
      · have := hdl k y; omega
      · exact hr.lt k y
      · cases y
      · have := sp.lt k (.inr (.inr (.inr (.inr y)))); omega
    · show (if X < w.heap.size then lab X else _) = 0
      rw [if_pos sX]
      exact lX
    · intro k y
      show (if k < w.heap.size then lab k else _) = 1
      have h1 := fd k y
      rw [if_neg (by omega), if_pos (hdl k y)]
    · intro k y
      show (if k < w.heap.size then lab k else _) = 2
      have h1 := fr k y
      rw [if_neg (by omega), if_neg (by omega)]
    · intro k y
      cases y
    · intro k y
      show (if k < w.heap.size then lab k else _) = 4
      rw [if_pos (sp.lt k (.inr (.inr (.inr (.inr y)))))]
      exact sp.k k y
    · intro k y
      show (if k < w.heap.size then lab k else _) = 5 ∧ _
      have := sp.m k y
      rw [if_pos this.2]
      refine ⟨this.1, ?_⟩
      simp [World.setCell]
      omega
    · intro k y
      show (if k < w.heap.size then lab k else _) = 6 ∧ _
      have := sp.r k y
      rw [if_pos this.2]
      refine ⟨this.1, ?_⟩
      simp [World.setCell]
      omega
  · rintro k (rfl | y | y | y | y)
    · exact .inl (.inl rfl)
    · exact .inr (fd k y)
    · have := fr k y
      exact .inr (by omega)
    · cases y
    · exact .inl (.inr (.inr (.inr (.inr y))))
  · have y1 : Ex (fun k => p.all X k ∨ mB mv k ∨ mB mr k) w (w1.setCell ⟨X, 0, none⟩ (.pointer (some ⟨g', 0, none⟩))) := (x1.mono (fun k _ hk => .inr (.inl hk))).setCell (p := ⟨X, 0, none⟩) (fun _ => .inl (.inl rfl)) _
    exact ((y1.next x2 (fun k _ hk => .inr (.inr hk))).setCell (p := ⟨X, 1, none⟩) (fun _ => .inl (.inl rfl)) _).setCell (p := ⟨X, 2, none⟩) (fun _ => .inl (.inl rfl)) _
set_option maxRecDepth 100000 in
set_option maxHeartbeats 4000000 in
theorem does_copy {w : World} {X : Nat} {p : Pl} {t : Tb} {pm pr : Option Addr} {M : Int → Int → World → Prop} {a b : Int} {n : Nat} (hT : Tw w X p t (.pointer pm) (.pointer pr) M a b) (hMo : MtOk (.pointer pm) M) (hBd : Bd t a b n) (hn : n ≤ 2000) (x1 x2 x3 x4 : Int) :
    Calls Tryz.prog 10 #[.pointer (some ⟨X, 0, none⟩), .agg #[.int .i64 6, .int .i64 x1, .int .i64 x2, .int .i64 x3, .int .i64 x4]] w fun e w' => e = .returned (.bool true) ∧ ∃ p' a' b', Dn w X p (.pointer pm) (.pointer pr) M (n + 1) p' (t.step 6 x1 x2 x3 x4) a' b' w' := by
  obtain ⟨w0, hw0⟩ : ∃ y, w.alloc (.cells #[.int .i64 6, .int .i64 x1, .int .i64 x2, .int .i64 x3, .int .i64 x4] 51) = y := ⟨_, rfl⟩
  have hb : Below w.heap.size w w0 := by rw [← hw0]; exact (Below.refl _ w).alloc (Nat.le_refl _) _
  have hT0 := hT.below hMo hb
  obtain ⟨d1, d2, d3, d4, d5, d6, d7⟩ := hBd
  have C1 := copy7_any hT0.dt hT0.ok hMo hT0.m ⟨by omega, by omega⟩
  have s0 : w0.cell? ⟨X, 0, none⟩ = some (.pointer (some ⟨p.g, 0, none⟩)) := hT0.hx.c 0 (by omega)
  have hcl : (liveL t.es).length ≤ t.births := by have := liveL_len t.es; have := hT.ok.few; omega
  have HW0 := Lib.hid hw0
  have HB := Lib.hid hb
  have HT0 := Lib.hid hT0
  have HMo := Lib.hid hMo
  clear hw0 hb hT0 hT hMo
  have s0' := s0
  rw [← HW0.out] at s0'
  go_enter Tryz.func10, Tryz.ntmps10
  go_upto_region 18 with fail
  rw [HW0.out]
  go_wp2_with fail
  refine C1.mono ?_
  rintro e w1 ⟨g', gi', r', h', ev', rfl, hfd, hD1, hM1, hX1⟩
  clear C1
  obtain ⟨lab, sp⟩ := HT0.out.sep
  have lX := sp.x
  have sX := sp.lt X (.inl rfl)
  have hx1 : Blk w1 X 4 (xF p) := HT0.out.hx.same (hX1.block X sX (fun h => by have := (sp.m X h).1; omega))
  have hmd := HT0.out.mid (hX1.mono (fun k _ h => .inr h))
  have hx2 := hx1.put 0 (.pointer (some ⟨g', 0, none⟩))
  have hR2 : RtS (w1.setCell ⟨X, 0, none⟩ (.pointer (some ⟨g', 0, none⟩))) p.g2 p.ev2 p.q2 t (.pointer pr) := hmd.1.same fun k hk => Below.heap_setCell _ _ _ _ (fun (e : k = X) => by have := sp.e k hk; rw [e] at this; omega)
  have hM2 : Ms (w1.setCell ⟨X, 0, none⟩ (.pointer (some ⟨g', 0, none⟩))) (.pointer pr) a b 0 0 := hmd.2.1.same fun k hk => Below.heap_setCell _ _ _ _ (fun (e : k = X) => by have := (sp.r k hk).1; rw [e] at this; omega)
  have C2 := rcopy_s hR2 HT0.out.ok hM2 ⟨by omega, by omega⟩
  have c0 : w1.cell? ⟨X, 0, none⟩ = some (.pointer (some ⟨p.g, 0, none⟩)) := hx1.c 0 (by omega)
  have z0 := hx1.z 0
  have c1 : (w1.setCell ⟨X, 0, none⟩ (.pointer (some ⟨g', 0, none⟩))).cell? ⟨X, 1, none⟩ = some (.pointer (some ⟨p.g2, 0, none⟩)) := hx2.c 1 (by omega)
  have HX1 := Lib.hid hX1
  have HD1 := Lib.hid hD1
  have HM1 := Lib.hid hM1
  have HFD := Lib.hid hfd
  have HX2 := Lib.hid hx2
  have HSP := Lib.hid sp
  clear hX1 hD1 hM1 hfd hx1 hx2 hmd hR2 hM2 sp s0 s0'
  go_upto_region 19 with fail
  go_wp2_with fail
  refine C2.mono ?_
  rintro e w3 ⟨g2', q2', ev2', rfl, hg2, hq2, he2, hR3, hM3, hX3⟩
  clear C2
  have hsz : X < (w1.setCell ⟨X, 0, none⟩ (.pointer (some ⟨g', 0, none⟩))).heap.size := by have := HX1.out.size; simp [World.setCell]; omega
  have hx3 := HX2.out.same (hX3.block X hsz (fun h => by have := (HSP.out.r X h).1; omega))
  have e0 : w3.cell? ⟨X, 0, none⟩ = some (.pointer (some ⟨g', 0, none⟩)) := hx3.c 0 (by omega)
  have e1 : w3.cell? ⟨X, 1, none⟩ = some (.pointer (some ⟨p.g2, 0, none⟩)) := hx3.c 1 (by omega)
  have e2 : w3.cell? ⟨X, 2, none⟩ = some p.sp := hx3.c 2 (by omega)
  have y1 := hx3.z 1
  have y2 := hx3.z 2
  have HF := Lib.hid (dn_of (n := n + 1) HB.out (Tw.copied HT0.out HMo.out HD1.out HFD.out HM1.out HX1.out hR3 (fun k hk => by
    rcases hk with h | h | h
    · rw [h]; exact hg2
    · rw [h]; exact hq2
    · exact he2 k h) hM3 hX3 HT0.out.ok.cp) ⟨by show (liveL t.es).length ≤ _; omega, by show 1 ≤ _; omega, by show 0 ≤ _; omega, by omega, by omega, d6, by omega⟩)
  clear hx3 hR3 hM3 hX3 hg2 hq2 he2 HSP HX1 HD1 HM1 HFD HX2 c0 c1 z0
  go_wp2_with fail
  go_ret
  exact ⟨rfl, _, _, _, by rw [step_copy]; exact HF.out⟩
end Go.Proofs.YtdjabdmnknlaeaaGreat
namespace Go.Proofs.YtdjabdmnknlaeaaGreat
open Go.RowKit Go.WideShapes

/-- New Seekers of both. -/
theorem Tw.seeks {w w1 w3 : World} {X : Nat} {p : Pl} {t : Tb} {mv mr : Value} {M : Int → Int → World → Prop} {a b : Int} (hT : Tw w X p t mv mr M a b) (hMo : MtOk mv M) {u : Int} {s s2 : Nat}
    (hs : w.heap.size ≤ s) (hK : Sk w1 s (.pointer (some ⟨p.g, 0, none⟩)) t.turn u t.L 0 (-1) 0) (x1 : Below w.heap.size w w1)
    (hs2 : (w1.setCell ⟨X, 2, none⟩ (.pointer (some ⟨s, 0, none⟩))).heap.size ≤ s2) (hB : Blk w3 s2 8 (sF p.g2 u t.turn (trl (uw u) t.L 0) (uw u) false 0 (-1))) (x2 : Below (w1.setCell ⟨X, 2, none⟩ (.pointer (some ⟨s, 0, none⟩))).heap.size (w1.setCell ⟨X, 2, none⟩ (.pointer (some ⟨s, 0, none⟩))) w3) :
    Tw (w3.setCell ⟨X, 3, none⟩ (.pointer (some ⟨s2, 0, none⟩))) X { p with sp := .pointer (some ⟨s, 0, none⟩), kp := .pointer (some ⟨s2, 0, none⟩) } t mv mr M a b ∧
    (∀ k, Pl.all { p with sp := .pointer (some ⟨s, 0, none⟩), kp := .pointer (some ⟨s2, 0, none⟩) } X k → p.all X k ∨ w.heap.size ≤ k) ∧
    Ex (fun k => p.all X k ∨ mB mv k ∨ mB mr k) w (w3.setCell ⟨X, 3, none⟩ (.pointer (some ⟨s2, 0, none⟩))) := by
  obtain ⟨lab, sp⟩ := hT.sep
  have s1 := x1.size
  have s2' := x2.size
  have ss : (w1.setCell ⟨X, 2, none⟩ (.pointer (some ⟨s, 0, none⟩))).heap.size = w1.heap.size := by simp [World.setCell]
  have sz5 : (w3.setCell ⟨X, 3, none⟩ (.pointer (some ⟨s2, 0, none⟩))).heap.size = w3.heap.size := by simp [World.setCell]
  rw [ss] at s2' hs2
  have sX := sp.lt X (.inl rfl)
  have ls := hK.lt (by omega)
  have ls2 := hB.lt (by omega)
  have n5 : ∀ k, k ≠ X → (w3.setCell ⟨X, 3, none⟩ (.pointer (some ⟨s2, 0, none⟩))).heap[k]? = w3.heap[k]? := fun k hk => Below.heap_setCell _ _ _ _ hk
  have n3 : ∀ k, k < w1.heap.size → k ≠ X → w3.heap[k]? = w1.heap[k]? := fun k hk h1 => (x2.block k (by rw [ss]; exact hk)).trans (Below.heap_setCell _ _ _ _ h1)
  have n0 : ∀ k, k < w.heap.size → k ≠ X → (w3.setCell ⟨X, 3, none⟩ (.pointer (some ⟨s2, 0, none⟩))).heap[k]? = w.heap[k]? := fun k hk h1 => ((n5 k h1).trans (n3 k (by omega) h1)).trans (x1.block k hk)
  have hX1 : Blk w1 X 4 (xF p) := hT.hx.same (x1.block X sX)
  have hX3 := (hX1.put 2 (.pointer (some ⟨s, 0, none⟩))).same (x2.block X (by rw [ss]; omega))
  have hX5 := hX3.put 3 (.pointer (some ⟨s2, 0, none⟩))
  have lX := sp.x
  refine ⟨⟨?_, ?_, ?_, hT.ok, ?_, ?_, ?_, ?_⟩, ?_, ?_⟩
  · refine hX5.congr fun j hj => ?_
    have : j = 0 ∨ j = 1 ∨ j = 2 ∨ j = 3 := by omega
    rcases this with rfl | rfl | rfl | rfl <;> rfl
  · refine hT.dt.same fun k hk => n0 k (sp.lt k (.inr (.inl hk))) (fun e => by have := sp.d k hk; rw [e] at this; omega)
  · refine hT.rt.same fun k hk => n0 k (sp.lt k (.inr (.inr (.inl hk)))) (fun e => by have := sp.e k hk; rw [e] at this; omega)
  · refine hMo.same _ _ _ _ hT.m fun k hk => n0 k (sp.m k hk).2 (fun e => by have := (sp.m k hk).1; rw [e] at this; omega)
  · refine hT.ms.same fun k hk => n0 k (sp.r k hk).2 (fun e => by have := (sp.r k hk).1; rw [e] at this; omega)
  · obtain ⟨f, hf1, hf2⟩ := hT.ok.inv.first u
    refine .inr ⟨s, s2, rfl, rfl, .inl ⟨u, 0, -1, f, ?_, ?_, told_zero _ _ _ _, hf2, Nat.zero_le _, hf1, Int.le_refl _⟩⟩
    · exact Blk.same hK ((n5 s (by omega)).trans (n3 s ls (by omega)))
    · rw [Nat.pow_zero, Nat.div_one]
      exact hB.same (n5 s2 (by omega))
  · refine ⟨fun k => if k < w.heap.size then lab k else if k < w1.heap.size then 3 else 4, ?_, ?_, ?_, ?_, ?_, ?_, ?_, ?_⟩
    · rw [sz5]
      rintro k (rfl | y | y | y | y)
      · omega
      · have := sp.lt k (.inr (.inl y)); omega
      · have := sp.lt k (.inr (.inr (.inl y))); omega
      · cases y; omega
      · cases y; omega
    · show (if X < w.heap.size then lab X else _) = 0
      rw [if_pos sX]
      exact lX
    · intro k y
      show (if k < w.heap.size then lab k else _) = 1
      rw [if_pos (sp.lt k (.inr (.inl y)))]
      exact sp.d k y
    · intro k y
      show (if k < w.heap.size then lab k else _) = 2
      rw [if_pos (sp.lt k (.inr (.inr (.inl y))))]
      exact sp.e k y
    · intro k y
      cases y
      show (if s < w.heap.size then lab s else _) = 3
      rw [if_neg (by omega), if_pos ls]
    · intro k y
      cases y
      show (if s2 < w.heap.size then lab s2 else _) = 4
      rw [if_neg (by omega), if_neg (by omega)]
    · intro k y
      show (if k < w.heap.size then lab k else _) = 5 ∧ _
      have := sp.m k y
      rw [if_pos this.2, sz5]
      exact ⟨this.1, by omega⟩
    · intro k y
      show (if k < w.heap.size then lab k else _) = 6 ∧ _
      have := sp.r k y
      rw [if_pos this.2, sz5]
      exact ⟨this.1, by omega⟩
  · rintro k (rfl | y | y | y | y)
    · exact .inl (.inl rfl)
    · exact .inl (.inr (.inl y))
    · exact .inl (.inr (.inr (.inl y)))
    · cases y; exact .inr hs
    · cases y; exact .inr (by omega)
  · have y1 : Ex (fun k => p.all X k ∨ mB mv k ∨ mB mr k) w (w1.setCell ⟨X, 2, none⟩ (.pointer (some ⟨s, 0, none⟩))) := (ex_of x1).setCell (p := ⟨X, 2, none⟩) (fun _ => .inl (.inl rfl)) _
    exact (y1.next (ex_of (X := fun _ => False) x2) (fun k _ hk => hk.elim)).setCell (p := ⟨X, 3, none⟩) (fun _ => .inl (.inl rfl)) _
theorem neqS (s : Nat) (w : World) : (binOp .neq 42 (.pointer (some ⟨s, 0, none⟩)) (.pointer none)).run Tryz.prog w = .ok (.bool true) w := by kernel_rfl
set_option maxRecDepth 100000 in
set_option maxHeartbeats 4000000 in
theorem does_seek {w : World} {X : Nat} {p : Pl} {t : Tb} {pm pr : Option Addr} {M : Int → Int → World → Prop} {a b : Int} {n : Nat} (hT : Tw w X p t (.pointer pm) (.pointer pr) M a b) (hMo : MtOk (.pointer pm) M) (hBd : Bd t a b n) (x1 x2 x3 x4 : Int) :
    Calls Tryz.prog 10 #[.pointer (some ⟨X, 0, none⟩), .agg #[.int .i64 7, .int .i64 x1, .int .i64 x2, .int .i64 x3, .int .i64 x4]] w fun e w' => e = .returned (.bool true) ∧ ∃ p' a' b', Dn w X p (.pointer pm) (.pointer pr) M (n + 1) p' (t.step 7 x1 x2 x3 x4) a' b' w' := by
  obtain ⟨w0, hw0⟩ : ∃ y, w.alloc (.cells #[.int .i64 7, .int .i64 x1, .int .i64 x2, .int .i64 x3, .int .i64 x4] 51) = y := ⟨_, rfl⟩
  have hb : Below w.heap.size w w0 := by rw [← hw0]; exact (Below.refl _ w).alloc (Nat.le_refl _) _
  have hbd : Below w.heap.size w w0.drew := hb.drew
  have hT0 := hT.below hMo hb
  have hTd := hT.below hMo hbd
  have C1 := seek_any hTd.dt x1
  have HSE : Hid (∀ V, Below w0.drew.heap.size w0.drew V → (V.cell? ⟨X, 0, none⟩ = some (.pointer (some ⟨p.g, 0, none⟩)) ∧ V.cell? ⟨w.heap.size, 1, none⟩ = some (.int .i64 x1)) ∧ V.cell? ⟨X, 1, none⟩ = some (.pointer (some ⟨p.g2, 0, none⟩))) := fun V hV => by
    obtain ⟨⟨⟨q0, q1⟩, q2, q3⟩, ⟨r0, r1⟩, r2, r3, r4⟩ := hT.seen (w0 := w0.drew) hMo (by rw [← hw0]) (ex_of hV)
    exact ⟨⟨q0, r1⟩, q1⟩
  obtain ⟨⟨s0, s0b⟩, _⟩ := HSE.out w0.drew (Below.refl _ _)
  have HBD := Lib.hid hBd
  have hbx : w.heap.size < w0.heap.size := by rw [← hw0]; simp
  have hXx : X < w.heap.size := hT.hx.lt (by omega)
  have HW0 := Lib.hid hw0
  have HB := Lib.hid hbd
  have HT0 := Lib.hid hTd
  have HMo := Lib.hid hMo
  clear hw0 hb hT0 hT hMo hTd hbd hBd
  go_enter Tryz.func10, Tryz.ntmps10
  go_upto_region 23 with fail
  rw [HW0.out]
  generalize hbxe : w.heap.size = bx at *
  have HBXE := Lib.hid hbxe
  clear hbxe
  have hXd : Blk w0.drew X 4 (xF p) := HT0.out.hx
  go_region_held3 (fun V => V.cell? ⟨X, 0, none⟩ = some (.pointer (some ⟨p.g, 0, none⟩)) ∧ V.cell? ⟨bx, 1, none⟩ = some (.int .i64 x1))
    (first | with_reducible exact ⟨s0, s0b⟩ | with_reducible exact ⟨s1, s1b⟩ | with_reducible exact ⟨s2, s2b⟩ | fail)
    (first | (go_at_call 34; refine C1.mono ?_; rintro e w1 ⟨s, rfl, hs, hK, hb1⟩; obtain ⟨⟨s1, s1b⟩, _⟩ := HSE.out w1 hb1; have hX1 := hXd.of hb1 (by omega); have c2 : w1.cell? ⟨X, 2, none⟩ = some p.sp := hX1.c 2 (by omega); have z2 := hX1.z 2; have s2 : (w1.setCell ⟨X, 2, none⟩ (.pointer (some ⟨s, 0, none⟩))).cell? ⟨X, 0, none⟩ = some (.pointer (some ⟨p.g, 0, none⟩)) := (hX1.put 2 (.pointer (some ⟨s, 0, none⟩))).c 0 (by omega); have s2b : (w1.setCell ⟨X, 2, none⟩ (.pointer (some ⟨s, 0, none⟩))).cell? ⟨bx, 1, none⟩ = some (.int .i64 x1) := (World.cell?_of_block (a := ⟨bx, 1, none⟩) (Below.heap_setCell _ _ _ _ (by show bx ≠ X; omega))).trans s1b) | fail)
  clear C1
  obtain ⟨lab, sp⟩ := HT0.out.sep
  have lX := sp.x
  have hR2 : RtS (w1.setCell ⟨X, 2, none⟩ (.pointer (some ⟨s, 0, none⟩))).drew p.g2 p.ev2 p.q2 t (.pointer pr) := (HT0.out.rt.below hb1).same fun k hk => Below.heap_setCell w1 _ _ _ (fun (e : k = X) => by have := sp.e k hk; rw [e] at this; omega)
  have C2 := rseek_s hR2 x1
  have hx2 := (hX1.put 2 (.pointer (some ⟨s, 0, none⟩))).same (w' := (w1.setCell ⟨X, 2, none⟩ (.pointer (some ⟨s, 0, none⟩))).drew) rfl
  have t1 : (w1.setCell ⟨X, 2, none⟩ (.pointer (some ⟨s, 0, none⟩))).drew.cell? ⟨X, 1, none⟩ = some (.pointer (some ⟨p.g2, 0, none⟩)) := hx2.c 1 (by omega)
  have t1b : (w1.setCell ⟨X, 2, none⟩ (.pointer (some ⟨s, 0, none⟩))).drew.cell? ⟨bx, 1, none⟩ = some (.int .i64 x1) := s2b
  have HK := Lib.hid hK
  have HB1 := Lib.hid hb1
  have HSS := Lib.hid hs
  have hlx : X < (w1.setCell ⟨X, 2, none⟩ (.pointer (some ⟨s, 0, none⟩))).heap.size := by have h1 := hb1.size; have h2 : w0.drew.heap.size = w0.heap.size := rfl; simp [World.setCell]; omega
  have hlb : bx < (w1.setCell ⟨X, 2, none⟩ (.pointer (some ⟨s, 0, none⟩))).heap.size := by have h1 := hb1.size; have h2 : w0.drew.heap.size = w0.heap.size := rfl; simp [World.setCell]; omega
  have HWW : Hid (∃ y, w1.setCell ⟨X, 2, none⟩ (.pointer (some ⟨s, 0, none⟩)) = y) := ⟨_, rfl⟩
  have HFIN : Hid (∀ s2 w3, (w1.setCell ⟨X, 2, none⟩ (.pointer (some ⟨s, 0, none⟩))).drew.heap.size ≤ s2 → Blk w3 s2 8 (sF p.g2 x1 t.turn (trl (uw x1) t.L 0) (uw x1) false 0 (-1)) → Below (w1.setCell ⟨X, 2, none⟩ (.pointer (some ⟨s, 0, none⟩))).drew.heap.size (w1.setCell ⟨X, 2, none⟩ (.pointer (some ⟨s, 0, none⟩))).drew w3 → ∃ p' a' b', Dn w X p (.pointer pm) (.pointer pr) M (n + 1) p' (t.step 7 x1 x2 x3 x4) a' b' (w3.setCell ⟨X, 3, none⟩ (.pointer (some ⟨s2, 0, none⟩)))) := fun s2 w3 h1 h2 h3 =>
    by rw [step_same t 7 x1 x2 x3 x4 ⟨by decide, by decide, by decide, by decide, by decide⟩]; exact ⟨_, _, _, dn_of (n := n + 1) (by rw [HBXE.out]; exact HB.out) (Tw.seeks HT0.out HMo.out HSS.out HK.out HB1.out h1 h2 ⟨h3.os, h3.tape, h3.output, h3.size, h3.block⟩) ⟨by have := HBD.out.1; omega, by have := HBD.out.2.1; omega, by have := HBD.out.2.2.1; omega, HBD.out.2.2.2.1, by have := HBD.out.2.2.2.2.1; omega, HBD.out.2.2.2.2.2.1, by have := HBD.out.2.2.2.2.2.2; omega⟩⟩
  clear hK hb1 hs hR2 sp s0 s0b s1 s1b s2 s2b c2 z2 hX1 hXd
  go_upto_region 24 with fail
  generalize w1.setCell ⟨X, 2, none⟩ (.pointer (some ⟨s, 0, none⟩)) = w2 at *
  go_region_held3 (fun V => V.cell? ⟨X, 1, none⟩ = some (.pointer (some ⟨p.g2, 0, none⟩)) ∧ V.cell? ⟨bx, 1, none⟩ = some (.int .i64 x1))
    (first | with_reducible exact ⟨t1, t1b⟩ | with_reducible exact ⟨t3, t3b⟩ | with_reducible exact ⟨t4, t4b⟩ | fail)
    (first | (go_at_call 35; refine C2.mono ?_; rintro e w3 ⟨s2, rfl, hs2, hK2, hb2⟩; have t3 := (hb2.cell (p := ⟨X, 1, none⟩) hlx).trans t1; have t3b := (hb2.cell (p := ⟨bx, 1, none⟩) hlb).trans t1b; have hX3 := hx2.of hb2 (by omega); have c3 : w3.cell? ⟨X, 3, none⟩ = some p.kp := hX3.c 3 (by omega); have z3 := hX3.z 3; have t4 : (w3.setCell ⟨X, 3, none⟩ (.pointer (some ⟨s2, 0, none⟩))).cell? ⟨X, 1, none⟩ = some (.pointer (some ⟨p.g2, 0, none⟩)) := (hX3.put 3 (.pointer (some ⟨s2, 0, none⟩))).c 1 (by omega); have t4b : (w3.setCell ⟨X, 3, none⟩ (.pointer (some ⟨s2, 0, none⟩))).cell? ⟨bx, 1, none⟩ = some (.int .i64 x1) := (World.cell?_of_block (a := ⟨bx, 1, none⟩) (Below.heap_setCell _ _ _ _ (by show bx ≠ X; omega))).trans t3b) | fail)
  have HF := Lib.hid (HFIN.out s2 w3 hs2 hK2 hb2)
  have c2 : (w3.setCell ⟨X, 3, none⟩ (.pointer (some ⟨s2, 0, none⟩))).cell? ⟨X, 2, none⟩ = some (.pointer (some ⟨s, 0, none⟩)) := (hX3.put 3 (.pointer (some ⟨s2, 0, none⟩))).c 2 (by omega)
  have hnq := neqS s
  clear C2 hs2 hK2 hb2 hX3 hx2 t1 t1b t3 t3b t4 t4b c3 z3
  go_wp2_with fail
  go_ret
  exact ⟨rfl, HF.out⟩
end Go.Proofs.YtdjabdmnknlaeaaGreat
