/-
  Next of a walk that goes on.
-/
import Derived.Test.YtejfmajbggmghaaGreatGr
namespace Go.Proofs.YtejfmajbggmghaaGreat
open Go.RowKit Go.WideShapes

/-- The pair, or none, that is told. -/
def FdV (back : Bool) (es : List En) (told : Int) (x : En) (yb : Bool) : Prop :=
  (yb = true ∧ ∃ n, (if back = true then Nb es told n else Nf es told n) ∧ x = nth es n) ∨ (yb = false ∧ x = En.zero ∧ if back = true then Fb es told else Ff es told)
theorem Nf.uniq {es : List En} {told : Int} {m n : Nat} (a : Nf es told m) (b : Nf es told n) : m = n := by
  rcases Nat.lt_trichotomy m n with x | x | x
  · have := b.2.2.2 m x a.2.1; have := a.2.2.1; omega
  · exact x
  · have := a.2.2.2 n x b.2.1; have := b.2.2.1; omega
theorem Nb.uniq {es : List En} {told : Int} {m n : Nat} (a : Nb es told m) (b : Nb es told n) : m = n := by
  rcases Nat.lt_trichotomy m n with x | x | x
  · have := a.2.2.2 n x b.1 b.2.1; have := b.2.2.1; omega
  · exact x
  · have := b.2.2.2 m x a.1 a.2.1; have := a.2.2.1; omega
theorem fd_det (back : Bool) (es : List En) (told : Int) (e0 : Ending) (h0 : FdR back es told e0) : ∃ x yb, FdV back es told x yb ∧ ∀ e, FdR back es told e → e = .returned (.tuple #[eV x, .bool yb]) := by
  unfold FdR at h0 ⊢
  unfold FdV
  cases back with
  | true =>
    rcases h0 with ⟨n, a, _⟩ | ⟨a, _⟩
    · refine ⟨nth es n, true, .inl ⟨rfl, n, a, rfl⟩, fun e h => ?_⟩
      rcases h with ⟨m, b, g⟩ | ⟨b, _⟩
      · rw [g, b.uniq a]
      · have h1 := b n a.1 a.2.1
        have h2 := a.2.2.1
        omega
    · refine ⟨En.zero, false, .inr ⟨rfl, rfl, a⟩, fun e h => ?_⟩
      rcases h with ⟨m, b, g⟩ | ⟨b, g⟩
      · have h1 := a m b.1 b.2.1
        have h2 := b.2.2.1
        omega
      · exact g
  | false =>
    rcases h0 with ⟨n, a, _⟩ | ⟨a, _⟩
    · refine ⟨nth es n, true, .inl ⟨rfl, n, a, rfl⟩, fun e h => ?_⟩
      rcases h with ⟨m, b, g⟩ | ⟨b, _⟩
      · rw [g, b.uniq a]
      · have h1 := b n a.1 a.2.1
        have h2 := a.2.2.1
        omega
    · refine ⟨En.zero, false, .inr ⟨rfl, rfl, a⟩, fun e h => ?_⟩
      rcases h with ⟨m, b, g⟩ | ⟨b, g⟩
      · have h1 := a m b.1 b.2.1
        have h2 := b.2.2.1
        omega
      · exact g
theorem nf_some {es : List En} {told : Int} (h : ¬ Ff es told) : ∃ n, Nf es told n := by
  have h1 : ∃ k, k < es.length ∧ (nth es k).live = true ∧ told < (nth es k).birth := Classical.byContradiction fun hn => h fun k hk hl => Classical.byContradiction fun hb => hn ⟨k, hk, hl, by omega⟩
  obtain ⟨k, hk⟩ := h1
  obtain ⟨n, hn, hp, hm⟩ := least (P := fun k => k < es.length ∧ (nth es k).live = true ∧ told < (nth es k).birth) k hk
  exact ⟨n, hp.1, hp.2.1, hp.2.2, fun q hq hl => Classical.byContradiction fun hb => hm q hq ⟨by omega, hl, by omega⟩⟩
theorem nb_some {es : List En} {told : Int} (h : ¬ Fb es told) : ∃ n, Nb es told n := by
  have h1 : ∃ k, k < es.length ∧ (nth es (es.length - 1 - k)).live = true ∧ (nth es (es.length - 1 - k)).birth < told := Classical.byContradiction fun hn => h fun k hk hl => Classical.byContradiction fun hb => hn ⟨es.length - 1 - k, by omega, by rw [show es.length - 1 - (es.length - 1 - k) = k by omega]; exact ⟨hl, by omega⟩⟩
  obtain ⟨k, hk⟩ := h1
  obtain ⟨n, hn, hp, hm⟩ := least (P := fun k => k < es.length ∧ (nth es (es.length - 1 - k)).live = true ∧ (nth es (es.length - 1 - k)).birth < told) k hk
  refine ⟨es.length - 1 - n, by omega, hp.2.1, hp.2.2, fun q hq hql hl => Classical.byContradiction fun hb => ?_⟩
  refine hm (es.length - 1 - q) (by omega) ⟨by omega, ?_⟩
  rw [show es.length - 1 - (es.length - 1 - q) = q by omega]
  exact ⟨hl, by omega⟩
/-- There always is an answer. -/
theorem fd_some (back : Bool) (es : List En) (told : Int) : ∃ e, FdR back es told e := by
  unfold FdR
  cases back with
  | true =>
    by_cases h : Fb es told
    · exact ⟨_, .inr ⟨h, rfl⟩⟩
    · obtain ⟨n, hn⟩ := nb_some h
      exact ⟨_, .inl ⟨n, hn, rfl⟩⟩
  | false =>
    by_cases h : Ff es told
    · exact ⟨_, .inr ⟨h, rfl⟩⟩
    · obtain ⟨n, hn⟩ := nf_some h
      exact ⟨_, .inl ⟨n, hn, rfl⟩⟩
/-- Variables of an entry and an error that a call has told. -/
def FnR (w0 : World) (y0 : Bool) (y1 y2 y3 y4 : Int) (ee : Value) (v9 v10 : Value) (W : World) : Prop := ∃ ga : Nat, v9 = .pointer (some ⟨ga, 0, none⟩) ∧ v10 = ee ∧ w0.heap.size ≤ ga ∧ Blk W ga 5 (fun j => #[Value.bool y0, .int .i64 y1, .int .i64 y2, .int .i64 y3, .int .i64 y4].getD j .nilFunc) ∧ Below w0.heap.size w0 W
/-- A variable of entries that was made ahead of a call, or behind it. -/
theorem fn_leaf {w0 : World} (y0 : Bool) (y1 y2 y3 y4 : Int) (ee : Value) (ty : TypeId) :
    (∀ w1, Below ((w0.alloc (.cells #[.bool false, .int .i64 0, .int .i64 0, .int .i64 0, .int .i64 0] ty)).drew).heap.size (w0.alloc (.cells #[.bool false, .int .i64 0, .int .i64 0, .int .i64 0, .int .i64 0] ty)).drew w1 → Blk w1 w0.heap.size 5 (fun j => #[Value.bool false, .int .i64 0, .int .i64 0, .int .i64 0, .int .i64 0].getD j .nilFunc)) ∧
    (∀ w1, Below ((w0.alloc (.cells #[.bool false, .int .i64 0, .int .i64 0, .int .i64 0, .int .i64 0] ty)).drew).heap.size (w0.alloc (.cells #[.bool false, .int .i64 0, .int .i64 0, .int .i64 0, .int .i64 0] ty)).drew w1 → FnR w0 y0 y1 y2 y3 y4 ee (.pointer (some ⟨w0.heap.size, 0, none⟩)) (ee) (((((w1.setCell ⟨w0.heap.size, 0, none⟩ (.bool y0)).setCell ⟨w0.heap.size, 1, none⟩ (.int .i64 y1)).setCell ⟨w0.heap.size, 2, none⟩ (.int .i64 y2)).setCell ⟨w0.heap.size, 3, none⟩ (.int .i64 y3)).setCell ⟨w0.heap.size, 4, none⟩ (.int .i64 y4))) ∧
    (∀ w1, Below (w0.drew).heap.size w0.drew w1 → FnR w0 y0 y1 y2 y3 y4 ee (.pointer (some ⟨w1.heap.size, 0, none⟩)) (ee) (w1.alloc (.cells #[.bool y0, .int .i64 y1, .int .i64 y2, .int .i64 y3, .int .i64 y4] ty))) := by
  have k1 : ∀ w1, Below ((w0.alloc (.cells #[.bool false, .int .i64 0, .int .i64 0, .int .i64 0, .int .i64 0] ty)).drew).heap.size (w0.alloc (.cells #[.bool false, .int .i64 0, .int .i64 0, .int .i64 0, .int .i64 0] ty)).drew w1 → Blk w1 w0.heap.size 5 (fun j => #[Value.bool false, .int .i64 0, .int .i64 0, .int .i64 0, .int .i64 0].getD j .nilFunc) := fun w1 hb => ((Blk.new w0 #[Value.bool false, .int .i64 0, .int .i64 0, .int .i64 0, .int .i64 0] ty).same (w' := (w0.alloc (.cells #[.bool false, .int .i64 0, .int .i64 0, .int .i64 0, .int .i64 0] ty)).drew) rfl).of hb (by simp)
  refine ⟨k1, fun w1 hb => ⟨_, rfl, rfl, Nat.le_refl _, ?_, ?_⟩, fun w1 hb => ⟨_, rfl, rfl, hb.size, Blk.new w1 #[Value.bool y0, .int .i64 y1, .int .i64 y2, .int .i64 y3, .int .i64 y4] ty, ?_⟩⟩
  · refine ((((((k1 w1 hb).put 0 (.bool y0)).put 1 (.int .i64 y1)).put 2 (.int .i64 y2)).put 3 (.int .i64 y3)).put 4 (.int .i64 y4)).congr fun j hj => ?_
    have : j = 0 ∨ j = 1 ∨ j = 2 ∨ j = 3 ∨ j = 4 := by omega
    rcases this with rfl | rfl | rfl | rfl | rfl <;> rfl
  · have h1 : Below w0.heap.size w0 (w0.alloc (.cells #[.bool false, .int .i64 0, .int .i64 0, .int .i64 0, .int .i64 0] ty)).drew := ((Below.refl _ w0).alloc (Nat.le_refl _) _).drew
    exact (((((h1.trans (hb.mono h1.size)).setCell (p := ⟨w0.heap.size, 0, none⟩) (Nat.le_refl _) _).setCell (p := ⟨w0.heap.size, 1, none⟩) (Nat.le_refl _) _).setCell (p := ⟨w0.heap.size, 2, none⟩) (Nat.le_refl _) _).setCell (p := ⟨w0.heap.size, 3, none⟩) (Nat.le_refl _) _).setCell (p := ⟨w0.heap.size, 4, none⟩) (Nat.le_refl _) _
  · have h1 : Below w0.heap.size w0 w1 := (Below.refl _ w0).drew.trans hb
    exact h1.alloc h1.size _
set_option maxRecDepth 100000 in
set_option maxHeartbeats 4000000 in
theorem next_go {w : World} {d g gi r h : Nat} {ev : Value} {t : Tb} {mv : Value} {most : Int} {v : Nat} (hC : Dc w d g gi r h ev t mv most v) (hb : t.Born) {s b : Nat} {back : Bool} {told : Int} (hS : Sr w s d back (t.live : Int) told b) (ht : -1 ≤ told) (ht2 : back = false → told < 9223372036854775807) {y0 : Bool} {y1 y2 y3 y4 : Int} {yb : Bool} (hy : ∀ e, FdR back t.es told e → e = .returned (.tuple #[eV ⟨y0, y1, y2, y3, y4⟩, .bool yb])) :
    Calls Tryz.prog 11 #[.pointer (some ⟨s, 0, none⟩)] w fun e w' => e = .returned (.tuple #[if yb = true then eV ⟨y0, y1, y2, y3, y4⟩ else eV En.zero, .int .i64 (if yb = true then 0 else 10)]) ∧ (if yb = true then Sr w' s d back (t.live : Int) y4 b else Blk w' s 5 (soF false)) ∧ Ex (fun k => k = s) w w' := by
  obtain ⟨w1, hw1⟩ : ∃ y, w.alloc (.cells #[.bool false, .int .i64 0, .int .i64 0, .int .i64 0, .int .i64 0] 48) = y := ⟨_, rfl⟩
  obtain ⟨hX1, hB1, hs1⟩ := en_new w hw1
  have hS1 := hS.below hB1
  have k0 : w1.cell? ⟨s, 0, none⟩ = some (.pointer (some ⟨d, 0, none⟩)) := hS1.hd.c 0 (by omega)
  have k1 : w1.cell? ⟨s, 1, none⟩ = some (.bool false) := hS1.hd.c 1 (by omega)
  have k2 : w1.cell? ⟨s, 2, none⟩ = some (.int .i64 (t.live : Int)) := hS1.hd.c 2 (by omega)
  have d0 : w1.drew.cell? ⟨s, 0, none⟩ = some (.pointer (some ⟨d, 0, none⟩)) := k0
  have d1 : w1.drew.cell? ⟨s, 1, none⟩ = some (.bool false) := k1
  have d2 : w1.drew.cell? ⟨s, 2, none⟩ = some (.int .i64 (t.live : Int)) := k2
  have C1 := srEnded_no k0
  have hC1 := hC.below hB1.drew
  have C2 : Calls Tryz.prog 22 #[.pointer (some ⟨d, 0, none⟩)] w1.drew fun e w' => e = .returned (.int .i64 (t.live : Int)) ∧ w' = w1.drew := plen_any (hC1.hd.c 0 (by omega)) (hC1.dt.hd.c 3 (by omega))
  have hSd : Blk w1.drew s 5 (srF d back (t.live : Int) told b) := hS1.hd.same rfl
  have CF : Hid (∀ V, Below w.heap.size w V → Calls Tryz.prog (fdF back) #[.int .i64 told, .pointer (some ⟨b, 0, none⟩)] V fun e w' => e = .returned (.tuple #[.agg #[.bool y0, .int .i64 y1, .int .i64 y2, .int .i64 y3, .int .i64 y4], .bool yb]) ∧ Below V.heap.size V w') := fun V hV => (fd_any (hC.below hV) hb back b (hS.below hV).bx told ht ht2).mono fun e w' ⟨h1, h2⟩ => ⟨hy e h1, h2⟩
  have hcf := fdF_call back
  have HW := Lib.hid hw1
  have HBd := Lib.hid (hB1.drew)
  have ls := hS.lt.1
  have HSR : Hid (∀ V, Below w.heap.size w V → Sr V s d back (t.live : Int) told b) := fun V hV => hS.below hV
  have HXd : Hid (Blk w1.drew w.heap.size 5 eZ) := Blk.same hX1 rfl
  have HLB : Hid (b < w.heap.size ∧ w.heap.size < w1.drew.heap.size) := ⟨hS.lt.2, by show w.heap.size < w1.heap.size; omega⟩
  have HCN : Hid (∀ (z : Int) (w' : World), Blk w' s 5 (fun x => if x = 3 then .int .i64 z else srF d back (t.live : Int) told b x) → Blk w' s 5 (srF d back (t.live : Int) z b)) := fun z w' h => h.congr fun j hj => by rcases lt5 hj with rfl | rfl | rfl | rfl | rfl <;> rfl
  have HSd : Hid (∀ V, Below w.heap.size w V → V.cell? ⟨s, 3, none⟩ = some (.int .i64 told) ∧ V.cell? ⟨s, 4, none⟩ = some (.func (.func (fdF back)) #[] #[.pointer (some ⟨b, 0, none⟩)])) := fun V hV => ⟨(hS.hd.of hV (by omega)).c 3 (by omega), (hS.hd.of hV (by omega)).c 4 (by omega)⟩
  clear hw1 hX1 hB1 hC hC1 hSd hS hS1 hs1
  generalize (t.live : Int) = tl at *
  generalize fdF back = F at *
  go_enter Tryz.func11, Tryz.ntmps11
  go_upto_region 1 with fail
  rw [HW.out]
  go_wp2_with fail
  refine C1.mono ?_
  rintro e w9 ⟨rfl, h9⟩
  rw [h9]
  clear C1 h9
  go_wp2_with fail
  go_region_held3 (fun V => V.cell? ⟨s, 0, none⟩ = some (.pointer (some ⟨d, 0, none⟩)) ∧ V.cell? ⟨s, 1, none⟩ = some (.bool false) ∧ V.cell? ⟨s, 2, none⟩ = some (.int .i64 tl))
    (first | with_reducible exact ⟨d0, d1, d2⟩ | with_reducible exact ⟨k0, k1, k2⟩ | fail)
    (first | (go_at_call 22; refine C2.mono ?_; rintro e w8 ⟨rfl, rfl⟩) | fail)
  clear k0 k1 k2 C2 d0 d1 d2
  generalize w1.drew = wd at *
  obtain ⟨k3, k4⟩ := HSd.out wd HBd.out
  have hBd2 : Below w.heap.size w wd.drew := HBd.out.drew
  obtain ⟨d3, d4⟩ := HSd.out wd.drew hBd2
  have hbA : Below w.heap.size w (wd.alloc (.cells #[.bool false, .int .i64 0, .int .i64 0, .int .i64 0, .int .i64 0] 48)).drew := (HBd.out.alloc HBd.out.size _).drew
  obtain ⟨e3, e4⟩ := HSd.out _ hbA
  have CA := CF.out _ hbA
  have CB := CF.out wd.drew hBd2
  have AT := Lib.hid (fn_leaf (w0 := wd) y0 y1 y2 y3 y4 (.bool yb) 48)
  clear hbA hBd2
  go_upto_region 6 with fail
  go_cut [4, 5] from 29 to 40 (fun v4 v5 W => FnR wd y0 y1 y2 y3 y4 (.bool yb) v4 v5 W)
  case first =>
    clear CF HSd HBd
    go_region_with (first | (with_reducible refine CA.mono ?_; rintro e w1' ⟨rfl, hb1⟩; have gz := AT.out.1 w1' hb1; have g0 := gz.c 0 (by omega); have g1 := gz.c 1 (by omega); have g2 := gz.c 2 (by omega); have g3 := gz.c 3 (by omega); have g4 := gz.c 4 (by omega); have z0 := gz.z 0; have z1 := gz.z 1; have z2 := gz.z 2; have z3 := gz.z 3; have z4 := gz.z 4) | (with_reducible refine CB.mono ?_; rintro e w1' ⟨rfl, hb1⟩) | fail)
    all_goals
      go_wp2_with fail
      go_meet
      case rel => first | with_reducible exact AT.out.2.1 w1' hb1 | with_reducible exact AT.out.2.2 w1' hb1
  case rest =>
    obtain ⟨ga, rfl, rfl, hga, hGa, hBc⟩ := hcut
    clear CA CB AT k3 k4 d3 d4 e3 e4 CF HSd
    have hBw := HBd.out.trans (hBc.mono HBd.out.size)
    have hSr := HSR.out wc hBw
    obtain ⟨hlb, hlw⟩ := HLB.out
    have hXc := HXd.out.of hBc (by omega)
    have hsw : s ≠ w.heap.size := by omega
    have hgs : ga ≠ s := by omega
    have hgw : ga ≠ w.heap.size := by omega
    have hbs : b ≠ s := fun e => hSr.ne e.symm
    have hbw : b ≠ w.heap.size := by omega
    cases yb with
    | false =>
      have hSd := hSr.hd
      obtain ⟨w2, hw2⟩ : ∃ y, put5 wc s (.pointer none) (.bool false) (.int .i64 0) (.int .i64 0) .nilFunc = y := ⟨_, rfl⟩
      have hX2 : Blk w2 w.heap.size 5 eZ := hXc.same (by rw [← hw2]; exact put5_other _ _ _ _ _ _ _ _ (fun e => hsw e.symm))
      have hS2 : Blk w2 s 5 (soF false) := by rw [← hw2]; exact put_so hSd false
      have hE2 : Ex (fun k => k = s) w w2 := by rw [← hw2]; exact put5_ex (X := fun k => k = s) (ex_of hBw) s (fun _ => rfl) _ _ _ _ _
      have HW2 := Lib.hid hw2
      have a0 := hX2.c 0 (by omega)
      have a1 := hX2.c 1 (by omega)
      have a2 := hX2.c 2 (by omega)
      have a3 := hX2.c 3 (by omega)
      have a4 := hX2.c 4 (by omega)
      have z0 := hX2.z 0
      have z1 := hX2.z 1
      have z2 := hX2.z 2
      have z3 := hX2.z 3
      have z4 := hX2.z 4
      have b0 := hSd.c 0 (by omega)
      have b1 := hSd.c 1 (by omega)
      have b2 := hSd.c 2 (by omega)
      have b3 := hSd.c 3 (by omega)
      have b4 := hSd.c 4 (by omega)
      have y0' := hSd.z 0
      have y1' := hSd.z 1
      have y2' := hSd.z 2
      have y3' := hSd.z 3
      have y4' := hSd.z 4
      have HR := Lib.hid (put5_blk hX2 (.bool false) (.int .i64 0) (.int .i64 0) (.int .i64 0) (.int .i64 0))
      have HSF := Lib.hid (hS2.same (put5_other w2 w.heap.size (.bool false) (.int .i64 0) (.int .i64 0) (.int .i64 0) (.int .i64 0) s hsw))
      have HE5 : Hid (Ex (fun k => k = s) w (put5 w2 w.heap.size (.bool false) (.int .i64 0) (.int .i64 0) (.int .i64 0) (.int .i64 0))) := put5_ex hE2 _ (fun h => absurd h (Nat.lt_irrefl _)) _ _ _ _ _
      unfold put5 at HR HSF HE5 HW2
      clear hw2 hX2 hS2 hE2 hSd hSr hXc hBw hBc hGa
      go_upto_region 9 with fail
      rw [HW2.out]
      go_wp2_with fail
      generalize World.setCell (World.setCell (World.setCell (World.setCell (World.setCell w2 _ _) _ _) _ _) _ _) _ _ = w5 at *
      have o0 : w5.cell? ⟨w.heap.size, 0, none⟩ = some (.bool false) := HR.out.c 0 (by omega)
      have o1 : w5.cell? ⟨w.heap.size, 1, none⟩ = some (.int .i64 0) := HR.out.c 1 (by omega)
      have o2 : w5.cell? ⟨w.heap.size, 2, none⟩ = some (.int .i64 0) := HR.out.c 2 (by omega)
      have o3 : w5.cell? ⟨w.heap.size, 3, none⟩ = some (.int .i64 0) := HR.out.c 3 (by omega)
      have o4 : w5.cell? ⟨w.heap.size, 4, none⟩ = some (.int .i64 0) := HR.out.c 4 (by omega)
      refine bodyPost_ret (v := .tuple #[.agg #[.bool false, .int .i64 0, .int .i64 0, .int .i64 0, .int .i64 0], .int .i64 10]) ?_ rfl ⟨rfl, HSF.out, HE5.out⟩
      simp [results, Tryz.results11, go_sem, o0, o1, o2, o3, o4]
    | true =>
      have hSd := hSr.hd
      obtain ⟨w2, hw2⟩ : ∃ y, wc.setCell ⟨s, 3, none⟩ (.int .i64 y4) = y := ⟨_, rfl⟩
      have oth : ∀ k, k ≠ s → w2.heap[k]? = wc.heap[k]? := fun k hk => by rw [← hw2]; exact Below.heap_setCell _ _ _ _ hk
      have hX2 : Blk w2 w.heap.size 5 eZ := hXc.same (oth _ (fun e => hsw e.symm))
      have hG2 := hGa.same (oth _ hgs)
      have hS2 : Blk w2 s 5 (srF d back tl y4 b) := HCN.out y4 w2 (by rw [← hw2]; exact hSd.put 3 (.int .i64 y4))
      have hE2 : Ex (fun k => k = s) w w2 := by rw [← hw2]; exact Ex.setCell (X := fun k => k = s) (ex_of hBw) (p := ⟨s, 3, none⟩) (fun _ => rfl) _
      have hb2 : w2.cell? ⟨b, 0, none⟩ = some (.pointer (some ⟨d, 0, none⟩)) := (World.cell?_of_block (a := ⟨b, 0, none⟩) (oth _ hbs)).trans hSr.bx
      have HW2 := Lib.hid hw2
      have a0 := hX2.c 0 (by omega)
      have a1 := hX2.c 1 (by omega)
      have a2 := hX2.c 2 (by omega)
      have a3 := hX2.c 3 (by omega)
      have a4 := hX2.c 4 (by omega)
      have z0 := hX2.z 0
      have z1 := hX2.z 1
      have z2 := hX2.z 2
      have z3 := hX2.z 3
      have z4 := hX2.z 4
      have g4' : wc.cell? ⟨ga, 4, none⟩ = some (.int .i64 y4) := hGa.c 4 (by omega)
      have g0 : w2.cell? ⟨ga, 0, none⟩ = some (.bool y0) := hG2.c 0 (by omega)
      have g1 : w2.cell? ⟨ga, 1, none⟩ = some (.int .i64 y1) := hG2.c 1 (by omega)
      have g2 : w2.cell? ⟨ga, 2, none⟩ = some (.int .i64 y2) := hG2.c 2 (by omega)
      have g3 : w2.cell? ⟨ga, 3, none⟩ = some (.int .i64 y3) := hG2.c 3 (by omega)
      have g4 : w2.cell? ⟨ga, 4, none⟩ = some (.int .i64 y4) := hG2.c 4 (by omega)
      have b3 := hSd.c 3 (by omega)
      have y3' := hSd.z 3
      have HR := Lib.hid (put5_blk hX2 (.bool y0) (.int .i64 y1) (.int .i64 y2) (.int .i64 y3) (.int .i64 y4))
      have HSF : Hid (Sr (put5 w2 w.heap.size (.bool y0) (.int .i64 y1) (.int .i64 y2) (.int .i64 y3) (.int .i64 y4)) s d back tl y4 b) := Sr.same ⟨hS2, hb2, hSr.ne⟩ (put5_other _ _ _ _ _ _ _ _ hsw) (put5_other _ _ _ _ _ _ _ _ hbw)
      have HE5 : Hid (Ex (fun k => k = s) w (put5 w2 w.heap.size (.bool y0) (.int .i64 y1) (.int .i64 y2) (.int .i64 y3) (.int .i64 y4))) := put5_ex hE2 _ (fun h => absurd h (Nat.lt_irrefl _)) _ _ _ _ _
      unfold put5 at HR HSF HE5
      clear hw2 hX2 hS2 hE2 hSd hSr hXc hBw hBc hGa hG2 oth hb2
      go_upto_region 11 with fail
      rw [HW2.out]
      go_wp2_with fail
      generalize World.setCell (World.setCell (World.setCell (World.setCell (World.setCell w2 _ _) _ _) _ _) _ _) _ _ = w5 at *
      have o0 : w5.cell? ⟨w.heap.size, 0, none⟩ = some (.bool y0) := HR.out.c 0 (by omega)
      have o1 : w5.cell? ⟨w.heap.size, 1, none⟩ = some (.int .i64 y1) := HR.out.c 1 (by omega)
      have o2 : w5.cell? ⟨w.heap.size, 2, none⟩ = some (.int .i64 y2) := HR.out.c 2 (by omega)
      have o3 : w5.cell? ⟨w.heap.size, 3, none⟩ = some (.int .i64 y3) := HR.out.c 3 (by omega)
      have o4 : w5.cell? ⟨w.heap.size, 4, none⟩ = some (.int .i64 y4) := HR.out.c 4 (by omega)
      refine bodyPost_ret (v := .tuple #[.agg #[.bool y0, .int .i64 y1, .int .i64 y2, .int .i64 y3, .int .i64 y4], .int .i64 0]) ?_ rfl ⟨rfl, HSF.out, HE5.out⟩
      simp [results, Tryz.results11, go_sem, o0, o1, o2, o3, o4]
end Go.Proofs.YtejfmajbggmghaaGreat
