/-
  The law's plays, of a new table.
-/
import Derived.Test.YtdjabdmnknlaeaaGreatTwc
import Derived.Test.YtdjabdmnknlaeaaGreatOpn
namespace Go.Proofs.YtdjabdmnknlaeaaGreat
open Go.RowKit Go.WideShapes

section
variable {P : Program} {ops : Array Oper} {Q : Exit → Act → World → Prop} {md : Region.Mode} {S S2 : World → Prop}
/-- Behind a call the walk may hold another condition, that says more. -/
theorem wpAnyH_weak (h12 : ∀ w, S2 w → S w) : ∀ {fuel : Nat} {listed : Array Bool} {a : Act} {w : World}, wpAnyH P md ops Q S2 fuel listed a w → wpAnyH P md ops Q S fuel listed a w
  | 0, _, _, _, h => h
  | _ + 1, _, _, _, h => ⟨h.1, fun i hi => wpOp_mono (fun _ _ h' => ⟨h12 _ h'.1, wpAnyH_weak h12 h'.2⟩) (h.2 i hi)⟩
/-- Take number i first, its slot written out. -/
theorem take_at {i : Nat} {oi : Oper} {v : Value} {d : Option Nat} {fuel : Nat} {listed : Array Bool} {a : Act} {w : World} (hi : ops[i]? = some oi) (hd : oi.dst = d)
    (hs : Region.noSelect ops = true) (hf : Region.free md ops listed i = true) (hr : (Region.ready md ops listed).contains i = true)
    (hQ : ∀ c a w, Q (.panic c) (a.put d v) w → Q (.panic c) a w) (hy : YieldsIf P ops S oi v a) (hS : S w)
    (h : wpAnyH P md ops Q S fuel (listed.setIfInBounds i true) (a.put d v) w) : wpAnyH P md ops Q S (fuel + 1) listed a w := by
  subst hd
  exact wpAnyH_take hi hs hf hr hQ hy hS h
end
theorem SgV.below {B : Nat} {w w' : World} {t : Tb} {hc : Nat} {ev' : Value} (h : SgV B w t hc ev') (hb : Below w.heap.size w w') : SgV B w' t hc ev' := ⟨h.row.same (hb.block _ h.row.lt), h.es.same' (fun k hk => hb.block k (h.es.es.lt k hk)), h.hB, h.ne⟩
/-- What plays leaves. -/
structure Py (w : World) (mv mr : Value) (M : Int → Int → World → Prop) (X : Nat) (p : Pl) (t : Tb) (a b : Int) (n : Nat) (w' : World) : Prop where
  tw : Tw w' X p t mv mr M a b
  bd : Bd t a b n
  fx : ∀ k, p.all X k → w.heap.size ≤ k
  ex : Ex (fun k => mB mv k ∨ mB mr k) w w'
theorem Py.step {w : World} {mv mr : Value} {M : Int → Int → World → Prop} {X : Nat} {p p' : Pl} {t t' : Tb} {a b a' b' : Int} {n : Nat} {w1 w2 : World} (h : Py w mv mr M X p t a b n w1) (d : Dn w1 X p mv mr M (n + 1) p' t' a' b' w2) : Py w mv mr M X p' t' a' b' (n + 1) w2 :=
  ⟨d.tw, d.bd, fun k hk => (d.fx k hk).elim (h.fx k) (fun x => Nat.le_trans h.ex.size x), h.ex.next d.ex (fun k hl hk => by
    rcases hk with y | y | y
    · have := h.fx k y; omega
    · exact .inl y
    · exact .inr y)⟩
theorem Py.below {w : World} {mv mr : Value} {M : Int → Int → World → Prop} {X : Nat} {p : Pl} {t : Tb} {a b : Int} {n : Nat} {w1 w2 : World} (h : Py w mv mr M X p t a b n w1) (hMo : MtOk mv M) (hb : Below w1.heap.size w1 w2) : Py w mv mr M X p t a b n w2 :=
  ⟨h.tw.below hMo hb, h.bd, h.fx, h.ex.next (ex_of (X := fun _ => False) hb) (fun _ _ x => x.elim)⟩
theorem eqT (g : Nat) (w : World) : (binOp .eql 28 (.pointer (some ⟨g, 0, none⟩)) (.pointer none)).run Tryz.prog w = .ok (.bool false) w := by kernel_rfl
set_option maxRecDepth 100000 in
set_option maxHeartbeats 16000000 in
theorem plays_any {w : World} {pm pr : Option Addr} {M : Int → Int → World → Prop} (hMo : MtOk (.pointer pm) M) (hMv : MvOk (.pointer pm) M) (hM : M 0 0 w) (hms : Ms w (.pointer pr) 0 0 0 0) (hpp : ∀ k, mB (.pointer pm) k → mB (.pointer pr) k → False) {a0 : Option Addr} {n c0 : Nat} {G : Nat → Nat → Int} (hrow : ∀ V, Ex (fun k => mB (.pointer pm) k ∨ mB (.pointer pr) k) w V → S5 V a0 n c0 G) (hn : n ≤ 400) :
    Calls Tryz.prog 5 #[.bool false, .slice a0 n c0, .pointer pm, .pointer pr] w fun e w' => ∃ X p t a b, e = .returned (.tuple #[.pointer (some ⟨X, 0, none⟩), .bool true]) ∧ Py w (.pointer pm) (.pointer pr) M X p t a b n w' := by
  have C1 := new7_any hMo hM (by omega : (0 : Int) ≤ 0 ∧ (0 : Int) ≤ 1000000000)
  have hlm := hMo.lt 0 0 w
  have hlr := hms.lt
  have HMo := Lib.hid hMo
  have HMv := Lib.hid hMv
  have HM := Lib.hid hM
  have HMS := Lib.hid hms
  have HROW := Lib.hid hrow
  have HPP := Lib.hid hpp
  have hcap : n ≤ c0 := (hrow w (Ex.refl _ _)).1
  clear hMo hMv hM hms hrow hpp
  go_enter Tryz.func5, Tryz.ntmps5
  go_wp2_with fail
  refine C1.mono ?_
  rintro e w1 ⟨g, gi, r, h, rfl, hg, hgi, hr, hh, hD, hM1, hX1⟩
  clear C1
  have hs1 := hX1.size
  have C2 := rtnew_s (HMS.out.same (w' := w1) fun k hk => hX1.block k (hlr k hk) (fun x => HPP.out k x hk)) (by omega : (0 : Int) ≤ 0 ∧ (0 : Int) ≤ 1000000000)
  have HD := Lib.hid hD
  have HM1 := Lib.hid hM1
  have HX1 := Lib.hid hX1
  have hdl := hD.lt
  clear hD hM1 hX1
  go_wp2_with fail
  refine C2.mono ?_
  rintro e w2 ⟨g2, q2, rfl, hg2, hq2, hR, hMs2, hX2⟩
  clear C2
  have hs2 := hX2.size
  obtain ⟨w3, hw3⟩ : ∃ y, w2.alloc (.cells #[.pointer (some ⟨g, 0, none⟩), .pointer (some ⟨g2, 0, none⟩), .pointer none, .pointer none] 45) = y := ⟨_, rfl⟩
  have hB3 : Below w2.heap.size w2 w3 := by rw [← hw3]; exact (Below.refl _ w2).alloc (Nat.le_refl _) _
  have hx3 : Blk w3 w2.heap.size 4 (xF ⟨g, gi, r, h, .slice none 0 0, g2, q2, .slice none 0 0, .pointer none, .pointer none⟩) := by
    rw [← hw3]
    refine (Blk.new w2 _ _).congr fun j hj => ?_
    have : j = 0 ∨ j = 1 ∨ j = 2 ∨ j = 3 := by simp at hj; omega
    rcases this with rfl | rfl | rfl | rfl <;> rfl
  have hs3 : w3.heap.size = w2.heap.size + 1 := by rw [← hw3]; simp
  have hfr : ∀ k, mB (.pointer pr) k → k < w.heap.size := hlr
  have hD2 : Dt w2 g gi r h (.slice none 0 0) Tb.new (.pointer pm) := HD.out.same fun k hk => hX2.block k (hdl k hk) (fun x => by
    have h1 := hfr k x
    rcases hk with y | y | y | y | y
    · omega
    · omega
    · omega
    · omega
    · cases y)
  have HPY : Hid (Py w (.pointer pm) (.pointer pr) M w2.heap.size ⟨g, gi, r, h, .slice none 0 0, g2, q2, .slice none 0 0, .pointer none, .pointer none⟩ Tb.new 1 0 0 w3) := by
    have hdn : ∀ k, dX g gi r h (.slice none 0 0) k → w.heap.size ≤ k ∧ k < w1.heap.size := fun k hk => by
      refine ⟨?_, hdl k hk⟩
      rcases hk with y | y | y | y | y
      · omega
      · omega
      · omega
      · omega
      · cases y
    have hen : ∀ k, (k = g2 ∨ k = q2 ∨ (Value.slice none 0 0).ownBlock = some k) → w1.heap.size ≤ k ∧ k < w2.heap.size := fun k hk => by
      refine ⟨?_, hR.lt k hk⟩
      rcases hk with y | y | y
      · omega
      · omega
      · cases y
    refine ⟨⟨hx3, hD2.below hB3, hR.below hB3, Tb.new_ok, ?_, hMs2.below hB3, .inl rfl, ?_⟩, ⟨Nat.le_refl _, Nat.le_refl _, Nat.le_refl _, by omega, by omega, by omega, by omega⟩, ?_, ?_⟩
    · have h1 : M 1 0 w1 := HM1.out
      have h2 : M 1 0 w2 := HMo.out.same _ _ _ _ h1 fun k hk => hX2.block k (by have := hlm k HM.out hk; omega) (fun x => HPP.out k hk x)
      exact HMo.out.below h2 hB3
    · refine ⟨fun k => if k = w2.heap.size then 0 else if w1.heap.size ≤ k then 2 else if w.heap.size ≤ k then 1 else @ite Nat (mB (.pointer pm) k) (Classical.propDecidable _) 5 6, ?_, ?_, ?_, ?_, ?_, ?_, ?_, ?_⟩
      · rintro k (rfl | y | y | y | y)
        · omega
        · have := hdn k y; omega
        · have := hen k y; omega
        · cases y
        · cases y
      · show (if _ then 0 else _) = 0
        rw [if_pos rfl]
      · intro k y
        have := hdn k y
        show (if k = w2.heap.size then 0 else _) = 1
        rw [if_neg (by omega), if_neg (by omega), if_pos (by omega)]
      · intro k y
        have := hen k y
        show (if k = w2.heap.size then 0 else _) = 2
        rw [if_neg (by omega), if_pos (by omega)]
      · intro k y; cases y
      · intro k y; cases y
      · intro k y
        have := hlm k HM.out y
        show (if k = w2.heap.size then 0 else _) = 5 ∧ _
        rw [if_neg (by omega), if_neg (by omega), if_neg (by omega)]
        exact ⟨if_pos y, by omega⟩
      · intro k y
        have := hlr k y
        show (if k = w2.heap.size then 0 else _) = 6 ∧ _
        rw [if_neg (by omega), if_neg (by omega), if_neg (by omega)]
        exact ⟨if_neg (fun z => HPP.out k z y), by omega⟩
    · rintro k (rfl | y | y | y | y)
      · omega
      · exact (hdn k y).1
      · have := hen k y; omega
      · cases y
      · cases y
    · exact ((HX1.out.mono (fun k _ x => .inl x)).next hX2 (fun k _ x => .inr x)).next (ex_of (X := fun _ => False) hB3) (fun _ _ x => x.elim)
  have c0 : w3.cell? ⟨w2.heap.size, 0, none⟩ = some (.pointer (some ⟨g, 0, none⟩)) := hx3.c 0 (by omega)
  have hnq := eqT g
  have HW3 := Lib.hid hw3
  clear hB3 hx3 hfr hD2 hR hMs2 hX2 hw3 HD HM1 HX1 hdl hg hgi hr hh hg2 hq2
  go_upto_region 4 with fail
  rw [HW3.out]
  generalize hXX : w2.heap.size = X at *
  clear hXX HW3
  go_wp2_with fail
  clear c0 hnq
  obtain ⟨p0, hp0⟩ : ∃ p0, Hid (Py w (.pointer pm) (.pointer pr) M X p0 Tb.new 1 0 0 w3) := ⟨_, HPY⟩
  clear HPY
  go_loopw [11] (fun iv wr => ∃ k p t a b, k ≤ n ∧ iv = .int .i64 (k : Int) ∧ Py w (.pointer pm) (.pointer pr) M X p t a b k wr) (fun iv _ => n - (intOf iv).toNat)
  case atStart => exact ⟨0, p0, Tb.new, 1, 0, Nat.zero_le _, rfl, hp0.out⟩
  case round =>
    clear hp0 hs1 hs2 hs3
    obtain ⟨k, p, t, a, b, hk, rfl, hPY⟩ := hrel
    by_cases hlt : k < n
    · have t1 : (k : Int) < (n : Int) := by omega
      obtain ⟨_, bR, offR, hab, hG⟩ := HROW.out wr hPY.ex
      obtain ⟨rfl, hbl⟩ := hab (by omega)
      have r0 : wr.cell? ⟨bR, offR + k * 5, none⟩ = some (.int .i64 (G k 0)) := hG k hlt 0 (by omega)
      have r1 : wr.cell? ⟨bR, offR + k * 5 + 1, none⟩ = some (.int .i64 (G k 1)) := hG k hlt 1 (by omega)
      have r2 : wr.cell? ⟨bR, offR + k * 5 + 2, none⟩ = some (.int .i64 (G k 2)) := hG k hlt 2 (by omega)
      have r3 : wr.cell? ⟨bR, offR + k * 5 + 3, none⟩ = some (.int .i64 (G k 3)) := hG k hlt 3 (by omega)
      have r4 : wr.cell? ⟨bR, offR + k * 5 + 4, none⟩ = some (.int .i64 (G k 4)) := hG k hlt 4 (by omega)
      have hTd := hPY.tw.below HMo.out (Below.refl _ wr).drew
      have CD := does_any hTd HMo.out HMv.out hPY.bd (by omega) (G k 0) (G k 1) (G k 2) (G k 3) (G k 4)
      have HPd := Lib.hid (hPY.below HMo.out (Below.refl _ wr).drew)
      clear hG hab hPY hTd
      generalize G k 0 = x0 at *
      generalize G k 1 = x1 at *
      generalize G k 2 = x2 at *
      generalize G k 3 = x3 at *
      generalize G k 4 = x4 at *
      have HST : Hid (∀ p' a' b' w1, Dn wr.drew X p (.pointer pm) (.pointer pr) M (k + 1) p' (t.step x0 x1 x2 x3 x4) a' b' w1 → Py w (.pointer pm) (.pointer pr) M X p' (t.step x0 x1 x2 x3 x4) a' b' (k + 1) w1) := fun p' a' b' w1 hN => HPd.out.step hN
      generalize t.step x0 x1 x2 x3 x4 = t' at *
      clear HPd
      by_cases h100 : t'.es.length < 100
      · have u1 : (t'.es.length : Int) < 100 := by omega
        have hlen' : t'.es.length ≤ 100000 := by omega
        clear h100
        go_upto_region 9 with fail
        refine wp_region_noPanic ?_
        refine wp_region_held_drew (S := fun _ => True) (by kernel_rfl) trivial (fun hSc => ?_)
        refine take_at (i := 0) (d := some 36) (v := ?_) rfl rfl (by kernel_rfl) (by kernel_rfl) (by kernel_rfl) (fun _ _ _ h => h) (Or.inl ⟨by rfl, ?hy⟩) hSc ?_
        case hy => (intro w hSw; (try dsimp only at hSw); go_simp; try with_reducible rfl)
        simp only [Act.put, List.setIfInBounds_toArray, List.set_cons_zero, List.set_cons_succ]
        refine take_at (i := 1) (d := some 37) (v := ?_) rfl rfl (by kernel_rfl) (by kernel_rfl) (by kernel_rfl) (fun _ _ _ h => h) (Or.inl ⟨by rfl, ?hy⟩) hSc ?_
        case hy => (intro w hSw; (try dsimp only at hSw); go_simp; try with_reducible rfl)
        simp only [Act.put, List.setIfInBounds_toArray, List.set_cons_zero, List.set_cons_succ]
        refine take_at (i := 2) (d := some 38) (v := ?_) rfl rfl (by kernel_rfl) (by kernel_rfl) (by kernel_rfl) (fun _ _ _ h => h) (Or.inl ⟨by rfl, ?hy⟩) hSc ?_
        case hy => (intro w hSw; (try dsimp only at hSw); go_simp; try with_reducible rfl)
        simp only [Act.put, List.setIfInBounds_toArray, List.set_cons_zero, List.set_cons_succ]
        refine take_at (i := 3) (d := some 39) (v := ?_) rfl rfl (by kernel_rfl) (by kernel_rfl) (by kernel_rfl) (fun _ _ _ h => h) (Or.inl ⟨by rfl, ?hy⟩) hSc ?_
        case hy => (intro w hSw; (try dsimp only at hSw); go_simp; try with_reducible rfl)
        simp only [Act.put, List.setIfInBounds_toArray, List.set_cons_zero, List.set_cons_succ]
        refine wpAnyH_ready (rs := [4]) (by kernel_rfl) (by simp) ?_
        refine AllReadyH.cons rfl (fun K hK => ?_) AllReadyH.nil
        go_simp
        refine hK.out _ _ trivial (fun hSn => ?_)
        clear hK K
        clear r0 r1 r2 r3 r4
        refine wpAnyH_ready (rs := [5]) (by kernel_rfl) (by simp) ?_
        refine AllReadyH.cons rfl (fun K hK => ?_) AllReadyH.nil
        go_simp
        refine CD.mono ?_
        rintro e w1 ⟨rfl, p', a', b', hN⟩
        have HP := Lib.hid (HST.out p' a' b' w1 hN)
        clear hN CD
        refine hK.out _ _ trivial (fun hSn => ?_)
        clear hK K
        clear hSc hSn
        have q0 : w1.cell? ⟨X, 0, none⟩ = some (.pointer (some ⟨p'.g, 0, none⟩)) := HP.out.tw.hx.c 0 (by omega)
        have q1 : w1.cell? ⟨X, 1, none⟩ = some (.pointer (some ⟨p'.g2, 0, none⟩)) := HP.out.tw.hx.c 1 (by omega)
        have q3 : w1.cell? ⟨p'.g2, 3, none⟩ = some (.int .i64 (t'.live : Int)) := (HP.out.tw.rt.hd.c 3 (by omega)).trans (by show some (Value.int .i64 (t'.sh.live : Int)) = _; rw [Tb.sh_live])
        have d3 : w1.cell? ⟨p'.g, 3, none⟩ = some (.int .i64 (t'.live : Int)) := HP.out.tw.dt.hd.c 3 (by omega)
        obtain ⟨ae, cape, hev, hsl⟩ := HP.out.tw.rt.es.sl
        rw [Tb.sh_len] at hev hsl
        have hcape := hsl.2.1
        have q4 : w1.cell? ⟨p'.g2, 0, none⟩ = some (.slice ae t'.es.length cape) := (HP.out.tw.rt.hd.c 0 (by omega)).trans (congrArg some hev)
        have CL := len_any d3
        have lX := lt_of_cell q0
        have lg2 := lt_of_cell q3
        have hSc : (w1.cell? ⟨X, 0, none⟩ = some (.pointer (some ⟨p'.g, 0, none⟩)) ∧ w1.cell? ⟨X, 1, none⟩ = some (.pointer (some ⟨p'.g2, 0, none⟩))) ∧ w1.cell? ⟨p'.g2, 3, none⟩ = some (.int .i64 (t'.live : Int)) ∧ w1.cell? ⟨p'.g2, 0, none⟩ = some (.slice ae t'.es.length cape) := ⟨⟨q0, q1⟩, q3, q4⟩
        clear hsl hev d3 q0 q1 q3 q4
        refine wpAnyH_weak (S2 := fun V => (V.cell? ⟨X, 0, none⟩ = some (.pointer (some ⟨p'.g, 0, none⟩)) ∧ V.cell? ⟨X, 1, none⟩ = some (.pointer (some ⟨p'.g2, 0, none⟩))) ∧ V.cell? ⟨p'.g2, 3, none⟩ = some (.int .i64 (t'.live : Int)) ∧ V.cell? ⟨p'.g2, 0, none⟩ = some (.slice ae t'.es.length cape)) (fun _ _ => trivial) ?_
        refine take_at (i := 6) (d := some 42) (v := ?_) rfl rfl (by kernel_rfl) (by kernel_rfl) (by kernel_rfl) (fun _ _ _ h => h) (Or.inl ⟨by rfl, ?hy⟩) hSc ?_
        case hy => (intro w hSw; (try dsimp only at hSw); go_simp; try with_reducible rfl)
        simp only [Act.put, List.setIfInBounds_toArray, List.set_cons_zero, List.set_cons_succ]
        refine take_at (i := 7) (d := some 43) (v := ?_) rfl rfl (by kernel_rfl) (by kernel_rfl) (by kernel_rfl) (fun _ _ _ h => h) (Or.inl ⟨by rfl, ?hy⟩) hSc ?_
        case hy => (intro w hSw; (try dsimp only at hSw); go_simp; try with_reducible rfl)
        simp only [Act.put, List.setIfInBounds_toArray, List.set_cons_zero, List.set_cons_succ]
        refine take_at (i := 8) (d := some 44) (v := ?_) rfl rfl (by kernel_rfl) (by kernel_rfl) (by kernel_rfl) (fun _ _ _ h => h) (Or.inl ⟨by rfl, ?hy⟩) hSc ?_
        case hy => (intro w hSw; (try dsimp only at hSw); go_simp; try with_reducible rfl)
        simp only [Act.put, List.setIfInBounds_toArray, List.set_cons_zero, List.set_cons_succ]
        refine take_at (i := 9) (d := some 45) (v := ?_) rfl rfl (by kernel_rfl) (by kernel_rfl) (by kernel_rfl) (fun _ _ _ h => h) (Or.inl ⟨by rfl, ?hy⟩) hSc ?_
        case hy => (intro w hSw; (try dsimp only at hSw); go_simp; try with_reducible rfl)
        simp only [Act.put, List.setIfInBounds_toArray, List.set_cons_zero, List.set_cons_succ]
        refine take_at (i := 10) (d := some 46) (v := ?_) rfl rfl (by kernel_rfl) (by kernel_rfl) (by kernel_rfl) (fun _ _ _ h => h) (Or.inl ⟨by rfl, ?hy⟩) hSc ?_
        case hy => (intro w hSw; (try dsimp only at hSw); go_simp; try with_reducible rfl)
        simp only [Act.put, List.setIfInBounds_toArray, List.set_cons_zero, List.set_cons_succ]
        refine take_at (i := 11) (d := some 47) (v := ?_) rfl rfl (by kernel_rfl) (by kernel_rfl) (by kernel_rfl) (fun _ _ _ h => h) (Or.inl ⟨by rfl, ?hy⟩) hSc ?_
        case hy => (intro w hSw; (try dsimp only at hSw); go_simp; try with_reducible rfl)
        simp only [Act.put, List.setIfInBounds_toArray, List.set_cons_zero, List.set_cons_succ]
        refine take_at (i := 13) (d := some 49) (v := ?_) rfl rfl (by kernel_rfl) (by kernel_rfl) (by kernel_rfl) (fun _ _ _ h => h) (Or.inl ⟨by rfl, ?hy⟩) hSc ?_
        case hy => (intro w hSw; (try dsimp only at hSw); go_simp; try with_reducible rfl)
        simp only [Act.put, List.setIfInBounds_toArray, List.set_cons_zero, List.set_cons_succ]
        refine take_at (i := 14) (d := some 50) (v := ?_) rfl rfl (by kernel_rfl) (by kernel_rfl) (by kernel_rfl) (fun _ _ _ h => h) (Or.inl ⟨by rfl, ?hy⟩) hSc ?_
        case hy => (intro w hSw; (try dsimp only at hSw); go_simp; try with_reducible rfl)
        simp only [Act.put, List.setIfInBounds_toArray, List.set_cons_zero, List.set_cons_succ]
        refine take_at (i := 15) (d := some 51) (v := ?_) rfl rfl (by kernel_rfl) (by kernel_rfl) (by kernel_rfl) (fun _ _ _ h => h) (Or.inl ⟨by rfl, ?hy⟩) hSc ?_
        case hy => (intro w hSw; (try dsimp only at hSw); go_simp; try with_reducible rfl)
        simp only [Act.put, List.setIfInBounds_toArray, List.set_cons_zero, List.set_cons_succ]
        refine take_at (i := 16) (d := some 52) (v := ?_) rfl rfl (by kernel_rfl) (by kernel_rfl) (by kernel_rfl) (fun _ _ _ h => h) (Or.inl ⟨by rfl, ?hy⟩) hSc ?_
        case hy => (intro w hSw; (try dsimp only at hSw); go_simp; try with_reducible rfl)
        simp only [Act.put, List.setIfInBounds_toArray, List.set_cons_zero, List.set_cons_succ]
        refine take_at (i := 17) (d := some 53) (v := ?_) rfl rfl (by kernel_rfl) (by kernel_rfl) (by kernel_rfl) (fun _ _ _ h => h) (Or.inl ⟨by rfl, ?hy⟩) hSc ?_
        case hy => (intro w hSw; (try dsimp only at hSw); go_simp; try with_reducible rfl)
        simp only [Act.put, List.setIfInBounds_toArray, List.set_cons_zero, List.set_cons_succ]
        refine take_at (i := 18) (d := some 54) (v := ?_) rfl rfl (by kernel_rfl) (by kernel_rfl) (by kernel_rfl) (fun _ _ _ h => h) (Or.inl ⟨by rfl, ?hy⟩) hSc ?_
        case hy => (intro w hSw; (try dsimp only at hSw); go_simp; try with_reducible rfl)
        simp only [Act.put, List.setIfInBounds_toArray, List.set_cons_zero, List.set_cons_succ]
        refine take_at (i := 19) (d := some 55) (v := ?_) rfl rfl (by kernel_rfl) (by kernel_rfl) (by kernel_rfl) (fun _ _ _ h => h) (Or.inl ⟨by rfl, ?hy⟩) hSc ?_
        case hy => (intro w hSw; (try dsimp only at hSw); go_simp; try with_reducible rfl)
        simp only [Act.put, List.setIfInBounds_toArray, List.set_cons_zero, List.set_cons_succ]
        refine wpAnyH_ready (rs := [12]) (by kernel_rfl) (by simp) ?_
        refine AllReadyH.cons rfl (fun K hK => ?_) AllReadyH.nil
        go_simp
        refine CL.mono ?_
        rintro e w4 ⟨rfl, rfl⟩
        refine hK.out _ _ hSc (fun hSn => ?_)
        clear hK K
        refine take_at (i := 20) (d := some 56) (v := ?_) rfl rfl (by kernel_rfl) (by kernel_rfl) (by kernel_rfl) (fun _ _ _ h => h) (Or.inl ⟨by rfl, ?hy⟩) hSc ?_
        case hy => (intro w hSw; (try dsimp only at hSw); go_simp; try with_reducible rfl)
        simp only [Act.put, List.setIfInBounds_toArray, List.set_cons_zero, List.set_cons_succ]
        refine take_at (i := 21) (d := some 57) (v := ?_) rfl rfl (by kernel_rfl) (by kernel_rfl) (by kernel_rfl) (fun _ _ _ h => h) (Or.inl ⟨by rfl, ?hy⟩) hSc ?_
        case hy => (intro w hSw; (try dsimp only at hSw); go_simp; try with_reducible rfl)
        simp only [Act.put, List.setIfInBounds_toArray, List.set_cons_zero, List.set_cons_succ]
        refine take_at (i := 22) (d := some 58) (v := ?_) rfl rfl (by kernel_rfl) (by kernel_rfl) (by kernel_rfl) (fun _ _ _ h => h) (Or.inl ⟨by rfl, ?hy⟩) hSc ?_
        case hy => (intro w hSw; (try dsimp only at hSw); go_simp; try with_reducible rfl)
        simp only [Act.put, List.setIfInBounds_toArray, List.set_cons_zero, List.set_cons_succ]
        refine take_at (i := 23) (d := some 59) (v := ?_) rfl rfl (by kernel_rfl) (by kernel_rfl) (by kernel_rfl) (fun _ _ _ h => h) (Or.inl ⟨by rfl, ?hy⟩) hSc ?_
        case hy => (intro w hSw; (try dsimp only at hSw); go_simp; try with_reducible rfl)
        simp only [Act.put, List.setIfInBounds_toArray, List.set_cons_zero, List.set_cons_succ]
        refine take_at (i := 24) (d := some 60) (v := ?_) rfl rfl (by kernel_rfl) (by kernel_rfl) (by kernel_rfl) (fun _ _ _ h => h) (Or.inl ⟨by rfl, ?hy⟩) hSc ?_
        case hy => (intro w hSw; (try dsimp only at hSw); go_simp; try with_reducible rfl)
        simp only [Act.put, List.setIfInBounds_toArray, List.set_cons_zero, List.set_cons_succ]
        refine take_at (i := 25) (d := some 61) (v := ?_) rfl rfl (by kernel_rfl) (by kernel_rfl) (by kernel_rfl) (fun _ _ _ h => h) (Or.inl ⟨by rfl, ?hy⟩) hSc ?_
        case hy => (intro w hSw; (try dsimp only at hSw); go_simp; try with_reducible rfl)
        simp only [Act.put, List.setIfInBounds_toArray, List.set_cons_zero, List.set_cons_succ]
        refine take_at (i := 26) (d := some 62) (v := ?_) rfl rfl (by kernel_rfl) (by kernel_rfl) (by kernel_rfl) (fun _ _ _ h => h) (Or.inl ⟨by rfl, ?hy⟩) hSc ?_
        case hy => (intro w hSw; (try dsimp only at hSw); go_simp; try with_reducible rfl)
        simp only [Act.put, List.setIfInBounds_toArray, List.set_cons_zero, List.set_cons_succ]
        refine take_at (i := 27) (d := some 63) (v := ?_) rfl rfl (by kernel_rfl) (by kernel_rfl) (by kernel_rfl) (fun _ _ _ h => h) (Or.inl ⟨by rfl, ?hy⟩) hSc ?_
        case hy => (intro w hSw; (try dsimp only at hSw); go_simp; try with_reducible rfl)
        simp only [Act.put, List.setIfInBounds_toArray, List.set_cons_zero, List.set_cons_succ]
        refine take_at (i := 28) (d := some 64) (v := ?_) rfl rfl (by kernel_rfl) (by kernel_rfl) (by kernel_rfl) (fun _ _ _ h => h) (Or.inl ⟨by rfl, ?hy⟩) hSc ?_
        case hy => (intro w hSw; (try dsimp only at hSw); go_simp; try with_reducible rfl)
        simp only [Act.put, List.setIfInBounds_toArray, List.set_cons_zero, List.set_cons_succ]
        refine take_at (i := 29) (d := some 65) (v := ?_) rfl rfl (by kernel_rfl) (by kernel_rfl) (by kernel_rfl) (fun _ _ _ h => h) (Or.inl ⟨by rfl, ?hy⟩) hSc ?_
        case hy => (intro w hSw; (try dsimp only at hSw); go_simp; try with_reducible rfl)
        simp only [Act.put, List.setIfInBounds_toArray, List.set_cons_zero, List.set_cons_succ]
        refine take_at (i := 30) (d := some 66) (v := ?_) rfl rfl (by kernel_rfl) (by kernel_rfl) (by kernel_rfl) (fun _ _ _ h => h) (Or.inl ⟨by rfl, ?hy⟩) hSc ?_
        case hy => (intro w hSw; (try dsimp only at hSw); go_simp; try with_reducible rfl)
        simp only [Act.put, List.setIfInBounds_toArray, List.set_cons_zero, List.set_cons_succ]
        refine take_at (i := 31) (d := some 67) (v := ?_) rfl rfl (by kernel_rfl) (by kernel_rfl) (by kernel_rfl) (fun _ _ _ h => h) (Or.inl ⟨by rfl, ?hy⟩) hSc ?_
        case hy => (intro w hSw; (try dsimp only at hSw); go_simp; try with_reducible rfl)
        simp only [Act.put, List.setIfInBounds_toArray, List.set_cons_zero, List.set_cons_succ]
        refine take_at (i := 32) (d := some 68) (v := ?_) rfl rfl (by kernel_rfl) (by kernel_rfl) (by kernel_rfl) (fun _ _ _ h => h) (Or.inl ⟨by rfl, ?hy⟩) hSc ?_
        case hy => (intro w hSw; (try dsimp only at hSw); go_simp; try with_reducible rfl)
        simp only [Act.put, List.setIfInBounds_toArray, List.set_cons_zero, List.set_cons_succ]
        have CS := dsight_any HP.out.tw.dt hlen'
        refine take_at (i := 33) (d := some 69) (v := ?_) rfl rfl (by kernel_rfl) (by kernel_rfl) (by kernel_rfl) (fun _ _ _ h => h) (Or.inl ⟨by rfl, ?hy⟩) hSc ?_
        case hy => (intro w hSw; (try dsimp only at hSw); go_simp; try with_reducible rfl)
        simp only [Act.put, List.setIfInBounds_toArray, List.set_cons_zero, List.set_cons_succ]
        refine take_at (i := 34) (d := some 70) (v := ?_) rfl rfl (by kernel_rfl) (by kernel_rfl) (by kernel_rfl) (fun _ _ _ h => h) (Or.inl ⟨by rfl, ?hy⟩) hSc ?_
        case hy => (intro w hSw; (try dsimp only at hSw); go_simp; try with_reducible rfl)
        simp only [Act.put, List.setIfInBounds_toArray, List.set_cons_zero, List.set_cons_succ]
        refine take_at (i := 35) (d := some 71) (v := ?_) rfl rfl (by kernel_rfl) (by kernel_rfl) (by kernel_rfl) (fun _ _ _ h => h) (Or.inl ⟨by rfl, ?hy⟩) hSc ?_
        case hy => (intro w hSw; (try dsimp only at hSw); go_simp; try with_reducible rfl)
        simp only [Act.put, List.setIfInBounds_toArray, List.set_cons_zero, List.set_cons_succ]
        refine take_at (i := 36) (d := some 72) (v := ?_) rfl rfl (by kernel_rfl) (by kernel_rfl) (by kernel_rfl) (fun _ _ _ h => h) (Or.inl ⟨by rfl, ?hy⟩) hSc ?_
        case hy => (intro w hSw; (try dsimp only at hSw); go_simp; try with_reducible rfl)
        simp only [Act.put, List.setIfInBounds_toArray, List.set_cons_zero, List.set_cons_succ]
        refine take_at (i := 38) (d := some 74) (v := ?_) rfl rfl (by kernel_rfl) (by kernel_rfl) (by kernel_rfl) (fun _ _ _ h => h) (Or.inl ⟨by rfl, ?hy⟩) hSc ?_
        case hy => (intro w hSw; (try dsimp only at hSw); go_simp; try with_reducible rfl)
        simp only [Act.put, List.setIfInBounds_toArray, List.set_cons_zero, List.set_cons_succ]
        refine take_at (i := 39) (d := some 75) (v := ?_) rfl rfl (by kernel_rfl) (by kernel_rfl) (by kernel_rfl) (fun _ _ _ h => h) (Or.inl ⟨by rfl, ?hy⟩) hSc ?_
        case hy => (intro w hSw; (try dsimp only at hSw); go_simp; try with_reducible rfl)
        simp only [Act.put, List.setIfInBounds_toArray, List.set_cons_zero, List.set_cons_succ]
        refine take_at (i := 40) (d := some 76) (v := ?_) rfl rfl (by kernel_rfl) (by kernel_rfl) (by kernel_rfl) (fun _ _ _ h => h) (Or.inl ⟨by rfl, ?hy⟩) hSc ?_
        case hy => (intro w hSw; (try dsimp only at hSw); go_simp; try with_reducible rfl)
        simp only [Act.put, List.setIfInBounds_toArray, List.set_cons_zero, List.set_cons_succ]
        refine take_at (i := 41) (d := some 77) (v := ?_) rfl rfl (by kernel_rfl) (by kernel_rfl) (by kernel_rfl) (fun _ _ _ h => h) (Or.inl ⟨by rfl, ?hy⟩) hSc ?_
        case hy => (intro w hSw; (try dsimp only at hSw); go_simp; try with_reducible rfl)
        simp only [Act.put, List.setIfInBounds_toArray, List.set_cons_zero, List.set_cons_succ]
        refine wpAnyH_ready (rs := [37]) (by kernel_rfl) (by simp) ?_
        refine AllReadyH.cons rfl (fun K hK => ?_) AllReadyH.nil
        go_simp
        refine CS.mono ?_
        rintro e w5 ⟨hc, ev1, rfl, hSg, hB5⟩
        clear CS
        have hS5 : (w5.cell? ⟨X, 0, none⟩ = some (.pointer (some ⟨p'.g, 0, none⟩)) ∧ w5.cell? ⟨X, 1, none⟩ = some (.pointer (some ⟨p'.g2, 0, none⟩))) ∧ w5.cell? ⟨p'.g2, 3, none⟩ = some (.int .i64 (t'.live : Int)) ∧ w5.cell? ⟨p'.g2, 0, none⟩ = some (.slice ae t'.es.length cape) := ⟨⟨(hB5.cell (p := ⟨X, 0, none⟩) lX).trans hSc.1.1, (hB5.cell (p := ⟨X, 1, none⟩) lX).trans hSc.1.2⟩, (hB5.cell (p := ⟨p'.g2, 3, none⟩) lg2).trans hSc.2.1, (hB5.cell (p := ⟨p'.g2, 0, none⟩) lg2).trans hSc.2.2⟩
        refine hK.out _ _ hS5 (fun hSn => ?_)
        clear hK K
        clear hSn
        have HP5 := Lib.hid (HP.out.below HMo.out hB5)
        have CT := rsight_s HP5.out.tw.rt hlen'
        have HSg := Lib.hid hSg
        clear hSg hB5 HP
        refine wpAnyH_ready (rs := [42]) (by kernel_rfl) (by simp) ?_
        refine AllReadyH.cons rfl (fun K hK => ?_) AllReadyH.nil
        go_simp
        refine CT.mono ?_
        rintro e w6 ⟨ca, cc, ea, ec, rfl, hN6, hE6, hB6⟩
        clear CT
        have hS6 : (w6.cell? ⟨X, 0, none⟩ = some (.pointer (some ⟨p'.g, 0, none⟩)) ∧ w6.cell? ⟨X, 1, none⟩ = some (.pointer (some ⟨p'.g2, 0, none⟩))) ∧ w6.cell? ⟨p'.g2, 3, none⟩ = some (.int .i64 (t'.live : Int)) ∧ w6.cell? ⟨p'.g2, 0, none⟩ = some (.slice ae t'.es.length cape) := ⟨⟨(hB6.cell (p := ⟨X, 0, none⟩) (lt_of_cell hS5.1.1)).trans hS5.1.1, (hB6.cell (p := ⟨X, 1, none⟩) (lt_of_cell hS5.1.1)).trans hS5.1.2⟩, (hB6.cell (p := ⟨p'.g2, 3, none⟩) (lt_of_cell hS5.2.1)).trans hS5.2.1, (hB6.cell (p := ⟨p'.g2, 0, none⟩) (lt_of_cell hS5.2.1)).trans hS5.2.2⟩
        refine hK.out _ _ hS6 (fun hSn => ?_)
        clear hK K
        clear hSn
        have HP6 := Lib.hid (HP5.out.below HMo.out hB6)
        have CG := sight_both hlen' HP6.out.tw.ok.sz.2 (HSg.out.below hB6) hN6 hE6
        clear hN6 hE6 hB6 HSg HP5
        refine wpAnyH_ready (rs := [43]) (by kernel_rfl) (by simp) ?_
        refine AllReadyH.cons rfl (fun K hK => ?_) AllReadyH.nil
        go_simp
        refine CG.mono ?_
        rintro e w7 ⟨rfl, hB7⟩
        clear CG
        have hS7 : (w7.cell? ⟨X, 0, none⟩ = some (.pointer (some ⟨p'.g, 0, none⟩)) ∧ w7.cell? ⟨X, 1, none⟩ = some (.pointer (some ⟨p'.g2, 0, none⟩))) ∧ w7.cell? ⟨p'.g2, 3, none⟩ = some (.int .i64 (t'.live : Int)) ∧ w7.cell? ⟨p'.g2, 0, none⟩ = some (.slice ae t'.es.length cape) := ⟨⟨(hB7.cell (p := ⟨X, 0, none⟩) (lt_of_cell hS6.1.1)).trans hS6.1.1, (hB7.cell (p := ⟨X, 1, none⟩) (lt_of_cell hS6.1.1)).trans hS6.1.2⟩, (hB7.cell (p := ⟨p'.g2, 3, none⟩) (lt_of_cell hS6.2.1)).trans hS6.2.1, (hB7.cell (p := ⟨p'.g2, 0, none⟩) (lt_of_cell hS6.2.1)).trans hS6.2.2⟩
        refine hK.out _ _ hS7 (fun hSn => ?_)
        clear hK K
        clear hSn
        have HPF := Lib.hid (HP6.out.below HMo.out hB7)
        clear hB7 HP6
        refine take_at (i := 44) (d := some 80) (v := ?_) rfl rfl (by kernel_rfl) (by kernel_rfl) (by kernel_rfl) (fun _ _ _ h => h) (Or.inl ⟨by rfl, ?hy⟩) hS7 ?_
        case hy => (intro w hSw; (try dsimp only at hSw); go_simp; try with_reducible rfl)
        simp only [Act.put, List.setIfInBounds_toArray, List.set_cons_zero, List.set_cons_succ]
        refine take_at (i := 45) (d := some 81) (v := ?_) rfl rfl (by kernel_rfl) (by kernel_rfl) (by kernel_rfl) (fun _ _ _ h => h) (Or.inl ⟨by rfl, ?hy⟩) hS7 ?_
        case hy => (intro w hSw; (try dsimp only at hSw); go_simp; try with_reducible rfl)
        simp only [Act.put, List.setIfInBounds_toArray, List.set_cons_zero, List.set_cons_succ]
        refine take_at (i := 46) (d := some 82) (v := ?_) rfl rfl (by kernel_rfl) (by kernel_rfl) (by kernel_rfl) (fun _ _ _ h => h) (Or.inl ⟨by rfl, ?hy⟩) hS7 ?_
        case hy => (intro w hSw; (try dsimp only at hSw); go_simp; try with_reducible rfl)
        simp only [Act.put, List.setIfInBounds_toArray, List.set_cons_zero, List.set_cons_succ]
        refine wpAnyH_done (by kernel_rfl) ?_ _
        refine NoPanic.normal ?_
        go_wp2_with fail
        go_roundw
        case rel => exact ⟨k + 1, _, _, _, _, by omega, by go_num, HPF.out⟩
        case measure => simp [intOf]; omega
      · have u1 : ¬ (t'.es.length : Int) < 100 := by omega
        have u2 : decide ((t'.es.length : Int) < 100) = false := decide_eq_false u1
        clear h100
        go_upto_region 9 with fail
        refine wp_region_noPanic ?_
        refine wp_region_held_drew (S := fun _ => True) (by kernel_rfl) trivial (fun hSc => ?_)
        refine take_at (i := 0) (d := some 36) (v := ?_) rfl rfl (by kernel_rfl) (by kernel_rfl) (by kernel_rfl) (fun _ _ _ h => h) (Or.inl ⟨by rfl, ?hy⟩) hSc ?_
        case hy => (intro w hSw; (try dsimp only at hSw); go_simp; try with_reducible rfl)
        simp only [Act.put, List.setIfInBounds_toArray, List.set_cons_zero, List.set_cons_succ]
        refine take_at (i := 1) (d := some 37) (v := ?_) rfl rfl (by kernel_rfl) (by kernel_rfl) (by kernel_rfl) (fun _ _ _ h => h) (Or.inl ⟨by rfl, ?hy⟩) hSc ?_
        case hy => (intro w hSw; (try dsimp only at hSw); go_simp; try with_reducible rfl)
        simp only [Act.put, List.setIfInBounds_toArray, List.set_cons_zero, List.set_cons_succ]
        refine take_at (i := 2) (d := some 38) (v := ?_) rfl rfl (by kernel_rfl) (by kernel_rfl) (by kernel_rfl) (fun _ _ _ h => h) (Or.inl ⟨by rfl, ?hy⟩) hSc ?_
        case hy => (intro w hSw; (try dsimp only at hSw); go_simp; try with_reducible rfl)
        simp only [Act.put, List.setIfInBounds_toArray, List.set_cons_zero, List.set_cons_succ]
        refine take_at (i := 3) (d := some 39) (v := ?_) rfl rfl (by kernel_rfl) (by kernel_rfl) (by kernel_rfl) (fun _ _ _ h => h) (Or.inl ⟨by rfl, ?hy⟩) hSc ?_
        case hy => (intro w hSw; (try dsimp only at hSw); go_simp; try with_reducible rfl)
        simp only [Act.put, List.setIfInBounds_toArray, List.set_cons_zero, List.set_cons_succ]
        refine wpAnyH_ready (rs := [4]) (by kernel_rfl) (by simp) ?_
        refine AllReadyH.cons rfl (fun K hK => ?_) AllReadyH.nil
        go_simp
        refine hK.out _ _ trivial (fun hSn => ?_)
        clear hK K
        clear r0 r1 r2 r3 r4
        refine wpAnyH_ready (rs := [5]) (by kernel_rfl) (by simp) ?_
        refine AllReadyH.cons rfl (fun K hK => ?_) AllReadyH.nil
        go_simp
        refine CD.mono ?_
        rintro e w1 ⟨rfl, p', a', b', hN⟩
        have HP := Lib.hid (HST.out p' a' b' w1 hN)
        clear hN CD
        refine hK.out _ _ trivial (fun hSn => ?_)
        clear hK K
        clear hSc hSn
        have q0 : w1.cell? ⟨X, 0, none⟩ = some (.pointer (some ⟨p'.g, 0, none⟩)) := HP.out.tw.hx.c 0 (by omega)
        have q1 : w1.cell? ⟨X, 1, none⟩ = some (.pointer (some ⟨p'.g2, 0, none⟩)) := HP.out.tw.hx.c 1 (by omega)
        have q3 : w1.cell? ⟨p'.g2, 3, none⟩ = some (.int .i64 (t'.live : Int)) := (HP.out.tw.rt.hd.c 3 (by omega)).trans (by show some (Value.int .i64 (t'.sh.live : Int)) = _; rw [Tb.sh_live])
        have d3 : w1.cell? ⟨p'.g, 3, none⟩ = some (.int .i64 (t'.live : Int)) := HP.out.tw.dt.hd.c 3 (by omega)
        obtain ⟨ae, cape, hev, hsl⟩ := HP.out.tw.rt.es.sl
        rw [Tb.sh_len] at hev hsl
        have hcape := hsl.2.1
        have q4 : w1.cell? ⟨p'.g2, 0, none⟩ = some (.slice ae t'.es.length cape) := (HP.out.tw.rt.hd.c 0 (by omega)).trans (congrArg some hev)
        have CL := len_any d3
        have lX := lt_of_cell q0
        have lg2 := lt_of_cell q3
        have hSc : (w1.cell? ⟨X, 0, none⟩ = some (.pointer (some ⟨p'.g, 0, none⟩)) ∧ w1.cell? ⟨X, 1, none⟩ = some (.pointer (some ⟨p'.g2, 0, none⟩))) ∧ w1.cell? ⟨p'.g2, 3, none⟩ = some (.int .i64 (t'.live : Int)) ∧ w1.cell? ⟨p'.g2, 0, none⟩ = some (.slice ae t'.es.length cape) := ⟨⟨q0, q1⟩, q3, q4⟩
        clear hsl hev d3 q0 q1 q3 q4
        refine wpAnyH_weak (S2 := fun V => (V.cell? ⟨X, 0, none⟩ = some (.pointer (some ⟨p'.g, 0, none⟩)) ∧ V.cell? ⟨X, 1, none⟩ = some (.pointer (some ⟨p'.g2, 0, none⟩))) ∧ V.cell? ⟨p'.g2, 3, none⟩ = some (.int .i64 (t'.live : Int)) ∧ V.cell? ⟨p'.g2, 0, none⟩ = some (.slice ae t'.es.length cape)) (fun _ _ => trivial) ?_
        refine take_at (i := 6) (d := some 42) (v := ?_) rfl rfl (by kernel_rfl) (by kernel_rfl) (by kernel_rfl) (fun _ _ _ h => h) (Or.inl ⟨by rfl, ?hy⟩) hSc ?_
        case hy => (intro w hSw; (try dsimp only at hSw); go_simp; try with_reducible rfl)
        simp only [Act.put, List.setIfInBounds_toArray, List.set_cons_zero, List.set_cons_succ]
        refine take_at (i := 7) (d := some 43) (v := ?_) rfl rfl (by kernel_rfl) (by kernel_rfl) (by kernel_rfl) (fun _ _ _ h => h) (Or.inl ⟨by rfl, ?hy⟩) hSc ?_
        case hy => (intro w hSw; (try dsimp only at hSw); go_simp; try with_reducible rfl)
        simp only [Act.put, List.setIfInBounds_toArray, List.set_cons_zero, List.set_cons_succ]
        refine take_at (i := 8) (d := some 44) (v := ?_) rfl rfl (by kernel_rfl) (by kernel_rfl) (by kernel_rfl) (fun _ _ _ h => h) (Or.inl ⟨by rfl, ?hy⟩) hSc ?_
        case hy => (intro w hSw; (try dsimp only at hSw); go_simp; try with_reducible rfl)
        simp only [Act.put, List.setIfInBounds_toArray, List.set_cons_zero, List.set_cons_succ]
        refine take_at (i := 9) (d := some 45) (v := ?_) rfl rfl (by kernel_rfl) (by kernel_rfl) (by kernel_rfl) (fun _ _ _ h => h) (Or.inl ⟨by rfl, ?hy⟩) hSc ?_
        case hy => (intro w hSw; (try dsimp only at hSw); go_simp; try with_reducible rfl)
        simp only [Act.put, List.setIfInBounds_toArray, List.set_cons_zero, List.set_cons_succ]
        refine take_at (i := 10) (d := some 46) (v := ?_) rfl rfl (by kernel_rfl) (by kernel_rfl) (by kernel_rfl) (fun _ _ _ h => h) (Or.inl ⟨by rfl, ?hy⟩) hSc ?_
        case hy => (intro w hSw; (try dsimp only at hSw); go_simp; try with_reducible rfl)
        simp only [Act.put, List.setIfInBounds_toArray, List.set_cons_zero, List.set_cons_succ]
        refine take_at (i := 11) (d := some 47) (v := ?_) rfl rfl (by kernel_rfl) (by kernel_rfl) (by kernel_rfl) (fun _ _ _ h => h) (Or.inl ⟨by rfl, ?hy⟩) hSc ?_
        case hy => (intro w hSw; (try dsimp only at hSw); go_simp; try with_reducible rfl)
        simp only [Act.put, List.setIfInBounds_toArray, List.set_cons_zero, List.set_cons_succ]
        refine take_at (i := 13) (d := some 49) (v := ?_) rfl rfl (by kernel_rfl) (by kernel_rfl) (by kernel_rfl) (fun _ _ _ h => h) (Or.inl ⟨by rfl, ?hy⟩) hSc ?_
        case hy => (intro w hSw; (try dsimp only at hSw); go_simp; try with_reducible rfl)
        simp only [Act.put, List.setIfInBounds_toArray, List.set_cons_zero, List.set_cons_succ]
        refine take_at (i := 14) (d := some 50) (v := ?_) rfl rfl (by kernel_rfl) (by kernel_rfl) (by kernel_rfl) (fun _ _ _ h => h) (Or.inl ⟨by rfl, ?hy⟩) hSc ?_
        case hy => (intro w hSw; (try dsimp only at hSw); go_simp; try with_reducible rfl)
        simp only [Act.put, List.setIfInBounds_toArray, List.set_cons_zero, List.set_cons_succ]
        refine take_at (i := 15) (d := some 51) (v := ?_) rfl rfl (by kernel_rfl) (by kernel_rfl) (by kernel_rfl) (fun _ _ _ h => h) (Or.inl ⟨by rfl, ?hy⟩) hSc ?_
        case hy => (intro w hSw; (try dsimp only at hSw); go_simp; try with_reducible rfl)
        simp only [Act.put, List.setIfInBounds_toArray, List.set_cons_zero, List.set_cons_succ]
        refine take_at (i := 16) (d := some 52) (v := ?_) rfl rfl (by kernel_rfl) (by kernel_rfl) (by kernel_rfl) (fun _ _ _ h => h) (Or.inl ⟨by rfl, ?hy⟩) hSc ?_
        case hy => (intro w hSw; (try dsimp only at hSw); go_simp; try with_reducible rfl)
        simp only [Act.put, List.setIfInBounds_toArray, List.set_cons_zero, List.set_cons_succ]
        refine take_at (i := 17) (d := some 53) (v := ?_) rfl rfl (by kernel_rfl) (by kernel_rfl) (by kernel_rfl) (fun _ _ _ h => h) (Or.inl ⟨by rfl, ?hy⟩) hSc ?_
        case hy => (intro w hSw; (try dsimp only at hSw); go_simp; try with_reducible rfl)
        simp only [Act.put, List.setIfInBounds_toArray, List.set_cons_zero, List.set_cons_succ]
        refine take_at (i := 18) (d := some 54) (v := ?_) rfl rfl (by kernel_rfl) (by kernel_rfl) (by kernel_rfl) (fun _ _ _ h => h) (Or.inl ⟨by rfl, ?hy⟩) hSc ?_
        case hy => (intro w hSw; (try dsimp only at hSw); go_simp; try with_reducible rfl)
        simp only [Act.put, List.setIfInBounds_toArray, List.set_cons_zero, List.set_cons_succ]
        refine take_at (i := 19) (d := some 55) (v := ?_) rfl rfl (by kernel_rfl) (by kernel_rfl) (by kernel_rfl) (fun _ _ _ h => h) (Or.inl ⟨by rfl, ?hy⟩) hSc ?_
        case hy => (intro w hSw; (try dsimp only at hSw); go_simp; try with_reducible rfl)
        simp only [Act.put, List.setIfInBounds_toArray, List.set_cons_zero, List.set_cons_succ]
        refine wpAnyH_ready (rs := [12]) (by kernel_rfl) (by simp) ?_
        refine AllReadyH.cons rfl (fun K hK => ?_) AllReadyH.nil
        go_simp
        refine CL.mono ?_
        rintro e w4 ⟨rfl, rfl⟩
        refine hK.out _ _ hSc (fun hSn => ?_)
        clear hK K
        refine take_at (i := 20) (d := some 56) (v := ?_) rfl rfl (by kernel_rfl) (by kernel_rfl) (by kernel_rfl) (fun _ _ _ h => h) (Or.inl ⟨by rfl, ?hy⟩) hSc ?_
        case hy => (intro w hSw; (try dsimp only at hSw); go_simp; try with_reducible rfl)
        simp only [Act.put, List.setIfInBounds_toArray, List.set_cons_zero, List.set_cons_succ]
        refine take_at (i := 21) (d := some 57) (v := ?_) rfl rfl (by kernel_rfl) (by kernel_rfl) (by kernel_rfl) (fun _ _ _ h => h) (Or.inl ⟨by rfl, ?hy⟩) hSc ?_
        case hy => (intro w hSw; (try dsimp only at hSw); go_simp; try with_reducible rfl)
        simp only [Act.put, List.setIfInBounds_toArray, List.set_cons_zero, List.set_cons_succ]
        refine take_at (i := 22) (d := some 58) (v := ?_) rfl rfl (by kernel_rfl) (by kernel_rfl) (by kernel_rfl) (fun _ _ _ h => h) (Or.inl ⟨by rfl, ?hy⟩) hSc ?_
        case hy => (intro w hSw; (try dsimp only at hSw); go_simp; try with_reducible rfl)
        simp only [Act.put, List.setIfInBounds_toArray, List.set_cons_zero, List.set_cons_succ]
        refine take_at (i := 23) (d := some 59) (v := ?_) rfl rfl (by kernel_rfl) (by kernel_rfl) (by kernel_rfl) (fun _ _ _ h => h) (Or.inl ⟨by rfl, ?hy⟩) hSc ?_
        case hy => (intro w hSw; (try dsimp only at hSw); go_simp; try with_reducible rfl)
        simp only [Act.put, List.setIfInBounds_toArray, List.set_cons_zero, List.set_cons_succ]
        refine take_at (i := 24) (d := some 60) (v := ?_) rfl rfl (by kernel_rfl) (by kernel_rfl) (by kernel_rfl) (fun _ _ _ h => h) (Or.inl ⟨by rfl, ?hy⟩) hSc ?_
        case hy => (intro w hSw; (try dsimp only at hSw); go_simp; try with_reducible rfl)
        simp only [Act.put, List.setIfInBounds_toArray, List.set_cons_zero, List.set_cons_succ]
        refine take_at (i := 25) (d := some 61) (v := ?_) rfl rfl (by kernel_rfl) (by kernel_rfl) (by kernel_rfl) (fun _ _ _ h => h) (Or.inl ⟨by rfl, ?hy⟩) hSc ?_
        case hy => (intro w hSw; (try dsimp only at hSw); go_simp; try with_reducible rfl)
        simp only [Act.put, List.setIfInBounds_toArray, List.set_cons_zero, List.set_cons_succ]
        refine take_at (i := 26) (d := some 62) (v := ?_) rfl rfl (by kernel_rfl) (by kernel_rfl) (by kernel_rfl) (fun _ _ _ h => h) (Or.inl ⟨by rfl, ?hy⟩) hSc ?_
        case hy => (intro w hSw; (try dsimp only at hSw); go_simp; try with_reducible rfl)
        simp only [Act.put, List.setIfInBounds_toArray, List.set_cons_zero, List.set_cons_succ]
        refine take_at (i := 27) (d := some 63) (v := ?_) rfl rfl (by kernel_rfl) (by kernel_rfl) (by kernel_rfl) (fun _ _ _ h => h) (Or.inl ⟨by rfl, ?hy⟩) hSc ?_
        case hy => (intro w hSw; (try dsimp only at hSw); go_simp; try with_reducible rfl)
        simp only [Act.put, List.setIfInBounds_toArray, List.set_cons_zero, List.set_cons_succ]
        refine take_at (i := 28) (d := some 64) (v := ?_) rfl rfl (by kernel_rfl) (by kernel_rfl) (by kernel_rfl) (fun _ _ _ h => h) (Or.inl ⟨by rfl, ?hy⟩) hSc ?_
        case hy => (intro w hSw; (try dsimp only at hSw); go_simp; try with_reducible rfl)
        simp only [Act.put, List.setIfInBounds_toArray, List.set_cons_zero, List.set_cons_succ]
        refine take_at (i := 29) (d := some 65) (v := ?_) rfl rfl (by kernel_rfl) (by kernel_rfl) (by kernel_rfl) (fun _ _ _ h => h) (Or.inl ⟨by rfl, ?hy⟩) hSc ?_
        case hy => (intro w hSw; (try dsimp only at hSw); go_simp; try with_reducible rfl)
        simp only [Act.put, List.setIfInBounds_toArray, List.set_cons_zero, List.set_cons_succ]
        refine take_at (i := 30) (d := some 66) (v := ?_) rfl rfl (by kernel_rfl) (by kernel_rfl) (by kernel_rfl) (fun _ _ _ h => h) (Or.inl ⟨by rfl, ?hy⟩) hSc ?_
        case hy => (intro w hSw; (try dsimp only at hSw); go_simp; try with_reducible rfl)
        simp only [Act.put, List.setIfInBounds_toArray, List.set_cons_zero, List.set_cons_succ]
        refine take_at (i := 31) (d := some 67) (v := ?_) rfl rfl (by kernel_rfl) (by kernel_rfl) (by kernel_rfl) (fun _ _ _ h => h) (Or.inl ⟨by rfl, ?hy⟩) hSc ?_
        case hy => (intro w hSw; (try dsimp only at hSw); go_simp; try with_reducible rfl)
        simp only [Act.put, List.setIfInBounds_toArray, List.set_cons_zero, List.set_cons_succ]
        refine take_at (i := 32) (d := some 68) (v := ?_) rfl rfl (by kernel_rfl) (by kernel_rfl) (by kernel_rfl) (fun _ _ _ h => h) (Or.inl ⟨by rfl, ?hy⟩) hSc ?_
        case hy => (intro w hSw; (try dsimp only at hSw); go_simp; try with_reducible rfl)
        simp only [Act.put, List.setIfInBounds_toArray, List.set_cons_zero, List.set_cons_succ]
        refine take_at (i := 33) (d := some 69) (v := undef) rfl rfl (by kernel_rfl) (by kernel_rfl) (by kernel_rfl) (fun _ _ _ h => h) (Or.inr ⟨by rfl, rfl⟩) hSc ?_
        simp only [Act.put, List.setIfInBounds_toArray, List.set_cons_zero, List.set_cons_succ]
        refine take_at (i := 34) (d := some 70) (v := undef) rfl rfl (by kernel_rfl) (by kernel_rfl) (by kernel_rfl) (fun _ _ _ h => h) (Or.inr ⟨by rfl, rfl⟩) hSc ?_
        simp only [Act.put, List.setIfInBounds_toArray, List.set_cons_zero, List.set_cons_succ]
        refine take_at (i := 35) (d := some 71) (v := undef) rfl rfl (by kernel_rfl) (by kernel_rfl) (by kernel_rfl) (fun _ _ _ h => h) (Or.inr ⟨by rfl, rfl⟩) hSc ?_
        simp only [Act.put, List.setIfInBounds_toArray, List.set_cons_zero, List.set_cons_succ]
        refine take_at (i := 36) (d := some 72) (v := undef) rfl rfl (by kernel_rfl) (by kernel_rfl) (by kernel_rfl) (fun _ _ _ h => h) (Or.inr ⟨by rfl, rfl⟩) hSc ?_
        simp only [Act.put, List.setIfInBounds_toArray, List.set_cons_zero, List.set_cons_succ]
        refine take_at (i := 37) (d := some 73) (v := undef) rfl rfl (by kernel_rfl) (by kernel_rfl) (by kernel_rfl) (fun _ _ _ h => h) (Or.inr ⟨by rfl, rfl⟩) hSc ?_
        simp only [Act.put, List.setIfInBounds_toArray, List.set_cons_zero, List.set_cons_succ]
        refine take_at (i := 38) (d := some 74) (v := undef) rfl rfl (by kernel_rfl) (by kernel_rfl) (by kernel_rfl) (fun _ _ _ h => h) (Or.inr ⟨by rfl, rfl⟩) hSc ?_
        simp only [Act.put, List.setIfInBounds_toArray, List.set_cons_zero, List.set_cons_succ]
        refine take_at (i := 39) (d := some 75) (v := undef) rfl rfl (by kernel_rfl) (by kernel_rfl) (by kernel_rfl) (fun _ _ _ h => h) (Or.inr ⟨by rfl, rfl⟩) hSc ?_
        simp only [Act.put, List.setIfInBounds_toArray, List.set_cons_zero, List.set_cons_succ]
        refine take_at (i := 40) (d := some 76) (v := undef) rfl rfl (by kernel_rfl) (by kernel_rfl) (by kernel_rfl) (fun _ _ _ h => h) (Or.inr ⟨by rfl, rfl⟩) hSc ?_
        simp only [Act.put, List.setIfInBounds_toArray, List.set_cons_zero, List.set_cons_succ]
        refine take_at (i := 41) (d := some 77) (v := undef) rfl rfl (by kernel_rfl) (by kernel_rfl) (by kernel_rfl) (fun _ _ _ h => h) (Or.inr ⟨by rfl, rfl⟩) hSc ?_
        simp only [Act.put, List.setIfInBounds_toArray, List.set_cons_zero, List.set_cons_succ]
        refine take_at (i := 42) (d := some 78) (v := undef) rfl rfl (by kernel_rfl) (by kernel_rfl) (by kernel_rfl) (fun _ _ _ h => h) (Or.inr ⟨by rfl, rfl⟩) hSc ?_
        simp only [Act.put, List.setIfInBounds_toArray, List.set_cons_zero, List.set_cons_succ]
        refine take_at (i := 43) (d := some 79) (v := undef) rfl rfl (by kernel_rfl) (by kernel_rfl) (by kernel_rfl) (fun _ _ _ h => h) (Or.inr ⟨by rfl, rfl⟩) hSc ?_
        simp only [Act.put, List.setIfInBounds_toArray, List.set_cons_zero, List.set_cons_succ]
        refine take_at (i := 44) (d := some 80) (v := undef) rfl rfl (by kernel_rfl) (by kernel_rfl) (by kernel_rfl) (fun _ _ _ h => h) (Or.inr ⟨by rfl, rfl⟩) hSc ?_
        simp only [Act.put, List.setIfInBounds_toArray, List.set_cons_zero, List.set_cons_succ]
        have HPF := HP
        refine take_at (i := 45) (d := some 81) (v := ?_) rfl rfl (by kernel_rfl) (by kernel_rfl) (by kernel_rfl) (fun _ _ _ h => h) (Or.inl ⟨by rfl, ?hy⟩) hSc ?_
        case hy => (intro w hSw; (try dsimp only at hSw); go_simp; try with_reducible rfl)
        simp only [Act.put, List.setIfInBounds_toArray, List.set_cons_zero, List.set_cons_succ]
        refine take_at (i := 46) (d := some 82) (v := ?_) rfl rfl (by kernel_rfl) (by kernel_rfl) (by kernel_rfl) (fun _ _ _ h => h) (Or.inl ⟨by rfl, ?hy⟩) hSc ?_
        case hy => (intro w hSw; (try dsimp only at hSw); go_simp; try with_reducible rfl)
        simp only [Act.put, List.setIfInBounds_toArray, List.set_cons_zero, List.set_cons_succ]
        refine wpAnyH_done (by kernel_rfl) ?_ _
        refine NoPanic.normal ?_
        go_wp2_with fail
        go_roundw
        case rel => exact ⟨k + 1, _, _, _, _, by omega, by go_num, HPF.out⟩
        case measure => simp [intOf]; omega
    · obtain rfl : k = n := by omega
      have t1 : ¬ (k : Int) < (k : Int) := by omega
      have hlen' : t.es.length ≤ 100000 := Nat.le_trans hPY.tw.ok.few hPY.tw.ok.all
      have HP := Lib.hid (hPY.below HMo.out (Below.refl _ wr).drew)
      have s0 : wr.drew.cell? ⟨X, 0, none⟩ = some (.pointer (some ⟨p.g, 0, none⟩)) ∧ wr.drew.cell? ⟨X, 1, none⟩ = some (.pointer (some ⟨p.g2, 0, none⟩)) := ⟨hPY.tw.hx.c 0 (by omega), hPY.tw.hx.c 1 (by omega)⟩
      have CS := dsight_any HP.out.tw.dt hlen'
      have HS : Hid (∀ V, Below wr.drew.heap.size wr.drew V → (V.cell? ⟨X, 0, none⟩ = some (.pointer (some ⟨p.g, 0, none⟩)) ∧ V.cell? ⟨X, 1, none⟩ = some (.pointer (some ⟨p.g2, 0, none⟩))) ∧ Py w (.pointer pm) (.pointer pr) M X p t a b k V) := fun V hV => by
        have h1 := HP.out.below HMo.out hV
        exact ⟨⟨h1.tw.hx.c 0 (by omega), h1.tw.hx.c 1 (by omega)⟩, h1⟩
      have HCT : Hid (∀ V, Below wr.drew.heap.size wr.drew V → Calls Tryz.prog 13 #[.pointer (some ⟨p.g2, 0, none⟩)] V fun e w' => ∃ ca cc ea ec, e = .returned (siV (t.L : Int) (wd t.L : Int) ca (2 ^ t.L) cc ea t.es.length ec (t.live : Int) (t.births : Int) (t.made : Int)) ∧ SlN w' ca (2 ^ t.L) cc t.c ∧ SlE w' ea t.es.length ec (shw t.es) ∧ Below V.heap.size V w') := fun V hV => rsight_s (HS.out V hV).2.tw.rt hlen'
      have hsz := hPY.tw.ok.sz.2
      clear hPY
      go_upto_region 11 with fail
      go_region_held3 (fun V => V.cell? ⟨X, 0, none⟩ = some (.pointer (some ⟨p.g, 0, none⟩)) ∧ V.cell? ⟨X, 1, none⟩ = some (.pointer (some ⟨p.g2, 0, none⟩)))
        (first | with_reducible exact s0 | with_reducible exact s5 | with_reducible exact s6 | with_reducible exact s7 | fail)
        (first | (go_at_call 8; refine CS.mono ?_; rintro e w5 ⟨hc, ev1, rfl, hSg, hB5⟩; have s5 := (HS.out w5 hB5).1) | (go_at_call 13; refine (HCT.out w5 hB5).mono ?_; rintro e w6 ⟨ca, cc, ea, ec, rfl, hN6, hE6, hB6⟩; have hB56 := hB5.trans (hB6.mono hB5.size); have s6 := (HS.out w6 hB56).1; have CG := sight_both hlen' hsz (hSg.below hB6) hN6 hE6) | (go_at_call 12; refine CG.mono ?_; rintro e w7 ⟨rfl, hB7⟩; have hB57 := hB56.trans (hB7.mono hB56.size); have s7 := (HS.out w7 hB57).1) | fail)
      have HF := Lib.hid (HS.out w7 hB57).2
      clear CG CS HCT s0 s5 s6 s7 hSg hN6 hE6 hB5 hB6 hB7 hB56 hB57 HS HP
      go_wp2_with fail
      go_ret2
      first | exact ⟨X, p, t, a, b, rfl, HF.out⟩ | exact ⟨X, p, rfl, t, a, b, HF.out⟩ | exact ⟨p, t, a, b, HF.out⟩
end Go.Proofs.YtdjabdmnknlaeaaGreat
