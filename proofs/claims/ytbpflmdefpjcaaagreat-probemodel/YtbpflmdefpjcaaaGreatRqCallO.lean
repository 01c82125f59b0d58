/-
  The program's call, from without.
-/
import Derived.Test.YtbpflmdefpjcaaaGreatGxaj
namespace Go.Proofs.YtbpflmdefpjcaaaGreat
open Go.RowKit Go.WideShapes

set_option maxRecDepth 100000 in
set_option maxHeartbeats 16000000 in
theorem rcallO_any {B : Nat} {w : World} {r d g gi rr h : Nat} {ev av tv : Value} {t : Tb} {most v : Nat} {q0 : List Int} {same : Int} {A : List Ac} {c : Cq} {a : Nat} {L' : List Pq} {v' : Nat} {q' : List Int} {k : Nat} (p : Rq w r d g gi rr h ev av tv t most v q0 same false) (hF : FdQ most same A c (pqs t.es) v q0 0 0 a L' v' q' k) (hk : k ≤ 8000) (hJ : v + potQ (q0.length : Int) A ≤ 900) (hg : 1 ≤ c.goal ∧ c.goal ≤ 4) (hA : ArB B w tv A) (hB : ∀ k, rqX r d g gi rr h ev av k → B ≤ k) (hBw : B ≤ w.heap.size) (hAl : A.length ≤ 80) (hql : q0.length + 8000 ≤ 200000) :
    Calls Tryz.prog 7 #[.pointer (some ⟨r, 0, none⟩), .agg #[.int .i64 (c.goal : Int), .int .i64 c.hash, .int .i64 c.key, .int .i64 c.value]] w fun e w' => RcQ w r d g gi rr h ev av tv t most v same false (endQ most c (L', v') a) q' e w' := by
  obtain ⟨w1, hw1⟩ : ∃ V, w.alloc (.cells #[.int .i64 (c.goal : Int), .int .i64 c.hash, .int .i64 c.key, .int .i64 c.value] 38) = V := ⟨_, rfl⟩
  obtain ⟨w2, hw2⟩ : ∃ V, w1.alloc (.cells #[.int .i64 0, .int .i64 0, .bool false, .int .i64 0, .int .i64 0] 40) = V := ⟨_, rfl⟩
  have hb1 : Below w.heap.size w w1 := by rw [← hw1]; exact (Below.refl _ w).alloc (Nat.le_refl _) _
  have hb2 : Below w1.heap.size w1 w2 := by rw [← hw2]; exact (Below.refl _ w1).alloc (Nat.le_refl _) _
  have hs1 : w1.heap.size = w.heap.size + 1 := by rw [← hw1]; simp
  have hs2 : w2.drew.heap.size = w.heap.size + 2 := by
    show w2.heap.size = _
    rw [← hw2]
    simp [hs1]
  have hb12 : Below w.heap.size w w2.drew := (hb1.trans (hb2.mono hb1.size)).drew
  have hC2 : Cb w2.drew w.heap.size c zT := ⟨Blk.same (w := w2) (Blk.of (by rw [← hw1]; exact cl_new w c) hb2 (by omega)) rfl, Blk.same (w := w2) (by rw [← hw2, ← hs1]; exact Blk.new w1 _ _) rfl⟩
  have p2 := p.below hb12
  have C1 := begin_yes d c.goal hg.1 hg.2 c.hash c.key c.value w2.drew
  have s0 : w2.drew.cell? ⟨r, 0, none⟩ = some (.pointer (some ⟨d, 0, none⟩)) ∧ (w2.drew.cell? ⟨w.heap.size, 0, none⟩ = some (.int .i64 (c.goal : Int)) ∧ w2.drew.cell? ⟨w.heap.size, 1, none⟩ = some (.int .i64 c.hash)) ∧ w2.drew.cell? ⟨w.heap.size, 2, none⟩ = some (.int .i64 c.key) ∧ w2.drew.cell? ⟨w.heap.size, 3, none⟩ = some (.int .i64 c.value) := ⟨p2.hd.c 0 (by omega), ⟨hC2.box.c 0 (by omega), hC2.box.c 1 (by omega)⟩, hC2.box.c 2 (by omega), hC2.box.c 3 (by omega)⟩
  have HS0 : Hid (∀ V, Below w2.drew.heap.size w2.drew V → V.cell? ⟨r, 0, none⟩ = some (.pointer (some ⟨d, 0, none⟩)) ∧ (V.cell? ⟨w.heap.size, 0, none⟩ = some (.int .i64 (c.goal : Int)) ∧ V.cell? ⟨w.heap.size, 1, none⟩ = some (.int .i64 c.hash)) ∧ V.cell? ⟨w.heap.size, 2, none⟩ = some (.int .i64 c.key) ∧ V.cell? ⟨w.heap.size, 3, none⟩ = some (.int .i64 c.value)) := fun V hb => ⟨(p2.below hb).hd.c 0 (by omega), ⟨(hC2.box.of hb (by omega)).c 0 (by omega), (hC2.box.of hb (by omega)).c 1 (by omega)⟩, (hC2.box.of hb (by omega)).c 2 (by omega), (hC2.box.of hb (by omega)).c 3 (by omega)⟩
  have HRX : Hid (∀ k, rqX r d g gi rr h ev av k → k < w.heap.size) := p.lt
  have HP2 := Lib.hid p2
  have HC2 := Lib.hid hC2
  have HB12 := Lib.hid hb12
  have HW1 := Lib.hid hw1
  have HW2 := Lib.hid hw2
  have HF := Lib.hid hF
  have HJ := Lib.hid hJ
  have HA := Lib.hid hA
  have HB := Lib.hid hB
  clear hA hB p p2 hC2 hb1 hb2 hb12 hw1 hw2 hF hJ
  go_enter Tryz.func7, Tryz.ntmps7
  go_upto_region 1 with fail
  rw [HW1.out, HW2.out]
  go_region_held3 (fun V => V.cell? ⟨r, 0, none⟩ = some (.pointer (some ⟨d, 0, none⟩)) ∧ (V.cell? ⟨w.heap.size, 0, none⟩ = some (.int .i64 (c.goal : Int)) ∧ V.cell? ⟨w.heap.size, 1, none⟩ = some (.int .i64 c.hash)) ∧ V.cell? ⟨w.heap.size, 2, none⟩ = some (.int .i64 c.key) ∧ V.cell? ⟨w.heap.size, 3, none⟩ = some (.int .i64 c.value))
    (first | with_reducible exact s0 | with_reducible exact s1 | fail)
    (first | (go_at_call 9; refine C1.mono ?_; rintro e w3 ⟨x, rfl, hxn, hmc, hb3⟩; have s1 := HS0.out w3 hb3; have HXN := Lib.hid hxn; have HMC := Lib.hid hmc; have HB3 := Lib.hid hb3; clear hxn hmc hb3) | fail)
  clear C1 s0 s1
  have hq := eqMa x
  have hnx : ¬ rqX r d g gi rr h ev av x := fun y => by have := HRX.out x y; have := HXN.out; omega
  have HL0 : Hid (Lp8 w2.drew r d g gi rr h ev av tv t most v same A c a L' v' q' false 900 x 0 w3 q0 gi rr h ev av t v q0 k (.pointer none) ⟨c.goal, c.hash, c.key, c.value, 0, 0, Tu.zero, 0, false⟩) :=
    ⟨(RqR.refl HP2.out).below HB3.out, ⟨HMC.out, rfl, rfl, rfl, rfl, hnx, fun k hk => (noneB hk).elim, by show (0 : Nat) ≤ _; omega, by show (0 : Nat) ≤ _; omega⟩, rfl, .inl ⟨0, 0, -1, HF.out, upto_zero _ _, .inl ⟨.inl rfl, rfl⟩⟩, HJ.out, Nat.le_refl _, HXN.out, fun k hk => (noneB hk).elim, by omega⟩
  have HC3 : Hid (Cb w3 w.heap.size c zT) := ⟨HC2.out.box.of HB3.out (by omega), HC2.out.res.of HB3.out (by omega)⟩
  go_wp2_with fail
  clear hq
  go_loopw [7] (fun iv wr => ∃ nn : Nat, nn ≤ 8001 ∧ iv = .int .i64 (nn : Int) ∧ ∃ (q9 : List Int) (gi1 rr1 h1 : Nat) (ev1 av1 : Value) (t1 : Tb) (v1 : Nat) (q1 : List Int) (k1 : Nat) (sv : Value) (m : Ma), Lp8 w2.drew r d g gi rr h ev av tv t most v same A c a L' v' q' false 900 x nn wr q9 gi1 rr1 h1 ev1 av1 t1 v1 q1 k1 sv m ∧ Cb wr w.heap.size c zT ∧ q9 = q1 ∧ q1.length ≤ q0.length + nn) (fun iv _ => 9000 - (intOf iv).toNat)
  case atStart => exact ⟨0, by omega, rfl, q0, gi, rr, h, ev, av, t, v, q0, k, _, _, HL0.out, HC3.out, ⟨rfl, by omega⟩⟩
  case round =>
    clear HL0 HC3
    obtain ⟨nn, hnn, rfl, q9, gi1, rr1, h1, ev1, av1, t1, v1, q1, k1, sv, m, hL, hC, hq9⟩ := hrel
    have t9 : (nn : Int) < 9000 := by omega
    have en : IntKind.i64.wrap ((nn : Int) + 1) = ((nn + 1 : Nat) : Int) := by rw [i64_small (by omega) (by omega)]; omega
    have hlk := hL.lk
    have hbd := hL.bd
    have hscL := hL.sc
    have CS := real_step hL.rq.rq hL.mm hL.hu hL.rdy (by omega) (by omega) hg
    have HL := Lib.hid hL
    have HC := Lib.hid hC
    clear hL hC
    go_upto_region 7 with fail
    go_wp2_with fail
    refine CS.mono ?_
    rintro e w4 ⟨u, rfl, hcase⟩
    clear CS
    obtain ⟨w5, hw5⟩ : ∃ V, w4.alloc (.cells #[.int .i64 u.kind, .int .i64 u.key, .bool u.found, .int .i64 u.value, .int .i64 u.entry] 40) = V := ⟨_, rfl⟩
    have hb5 : Below w4.heap.size w4 w5 := by rw [← hw5]; exact (Below.refl _ w4).alloc (Nat.le_refl _) _
    have hT5 : Blk w5 w4.heap.size 5 (fun j => #[Value.int .i64 u.kind, .int .i64 u.key, .bool u.found, .int .i64 u.value, .int .i64 u.entry].getD j .nilFunc) := by rw [← hw5]; exact Blk.new w4 _ _
    have hs5 : w5.heap.size = w4.heap.size + 1 := by rw [← hw5]; simp
    have HW5 := Lib.hid hw5
    unfold tuV
    rcases hcase with ⟨hk1, hend, hqq, gi2, rr2, h2, ev2, t2, hp, hpq, hsm, hvl, hfx, hex, s, j, m', hmc, hvi⟩ | ⟨n, i, sc, s, j, f, m1, hu, hii, hhi, hkey, hFd, hp, hex, hm1, hmu, hmv, hms, hms1, hma, hSw, hnl, hll, hlp, hUp, hsn⟩
    · -- it has ended
      have R4 := HL.out.rq.step hp hpq hsm hvl hfx hex HL.out.nx HL.out.ns
      have hs4 := R4.ex.size
      have HLE4 : Hid (w2.drew.heap.size ≤ w4.heap.size) := hs4
      have hC4 : Cb w4 w.heap.size c zT := by
        have nb : ∀ k, w.heap.size ≤ k → k < w.heap.size + 2 → w4.heap[k]? = wr.heap[k]? := fun k g1 g2 => hex.block k (by have := HL.out.rq.ex.size; omega) (fun y => by
          rcases y with y | y | y
          · rcases HL.out.rq.fx k y with z | z
            · have := HRX.out k z; omega
            · omega
          · have := HL.out.nx; omega
          · have := HL.out.ns k y; omega)
        exact ⟨HC.out.box.same (nb _ (by omega) (by omega)), HC.out.res.same (nb _ (by omega) (by omega))⟩
      obtain ⟨tp, tu, uu, LL, ii, told, hsk⟩ := hvi
      have CN := scan_any (w := w5.drew) (Blk.of hmc hb5.drew (by omega)) (Blk.c (Blk.of hsk hb5.drew (by omega)) 7 (by omega))
      have p5 := (R4.rq.below hb5).same (w' := w5.drew) fun _ _ => rfl
      have CG := psight_any p5.dc
      have hP : 2 ^ t2.L ≤ 1048576 := Nat.le_trans (Nat.pow_le_pow_right (n := 2) (by decide) p5.dc.ok.sz.2) (by decide)
      have HK : Hid (∀ V, Below w5.drew.heap.size w5.drew V → V.cell? ⟨r, 0, none⟩ = some (.pointer (some ⟨d, 0, none⟩)) ∧ V.cell? ⟨w4.heap.size, 0, none⟩ = some (.int .i64 u.kind)) := fun V hb => ⟨(p5.below hb).hd.c 0 (by omega), ((Blk.same (w' := w5.drew) hT5 rfl).of hb (by omega)).c 0 (by omega)⟩
      have s0 := HK.out w5.drew (Below.refl _ _)
      have hkb : (u.kind == 1) = false := by rw [beq_eq_false_iff_ne]; exact hk1
      have hkn : (u.kind != 1) = true := by simp [hk1]
      have R5 := R4.below hb5.drew
      have hC5 : Cb w5.drew w.heap.size c zT := ⟨hC4.box.of hb5.drew (by omega), hC4.res.of hb5.drew (by omega)⟩
      have hT5d : Blk w5.drew w4.heap.size 5 (fun j => #[Value.int .i64 u.kind, .int .i64 u.key, .bool u.found, .int .i64 u.value, .int .i64 u.entry].getD j .nilFunc) := Blk.same (w' := w5.drew) hT5 rfl
      have hsz5 : w5.drew.heap.size = w4.heap.size + 1 := hs5
      have HR5 := Lib.hid R5
      have HC5 := Lib.hid hC5
      have HT5 := Lib.hid hT5d
      have HEND := Lib.hid hend
      have HQQ := Lib.hid hqq
      have HLT4 : Hid (∀ k, rqX r d g gi2 rr2 h2 ev2 av1 k → k < w4.heap.size) := hp.lt
      clear hp hpq hsm hvl hfx hex hmc hsk R4 hC4 p5 hb5 hT5 R5 hC5 hT5d hw5 hend hqq
      unfold sgV at CG
      generalize 2 ^ t2.L = NL at hP CG
      generalize hVN : ((j : Nat) : Int) = vn at CN
      have n13 : IntKind.i64.wrap ((NL : Int) + 13) = (NL : Int) + 13 := i64_small (by omega) (by omega)
      go_upto_region 8 with fail
      rw [HW5.out]
      rcases Decidable.em ((NL : Int) + 13 < vn) with hbig | hbig
      case' inl =>
        have hdc : decide ((NL : Int) + 13 < vn) = true := decide_eq_true hbig
        clear hbig
        refine wp_region_noPanic ?_
        refine wp_region_held_drew (S := fun V => V.cell? ⟨r, 0, none⟩ = some (.pointer (some ⟨d, 0, none⟩)) ∧ V.cell? ⟨w4.heap.size, 0, none⟩ = some (.int .i64 u.kind)) (by kernel_rfl) s0 (fun hSc => ?_)
        refine takeQ_at (i := 0) (d := some 31) (v := ?_) rfl rfl (by kernel_rfl) (by kernel_rfl) (by kernel_rfl) (fun _ _ _ h => h) (Or.inl ⟨by rfl, ?hy⟩) hSc ?_
        case hy => (intro w hSw; (try dsimp only at hSw); go_simp; try with_reducible rfl)
        simp only [Act.put, List.setIfInBounds_toArray, List.set_cons_zero, List.set_cons_succ]
        refine takeQ_at (i := 2) (d := some 33) (v := ?_) rfl rfl (by kernel_rfl) (by kernel_rfl) (by kernel_rfl) (fun _ _ _ h => h) (Or.inl ⟨by rfl, ?hy⟩) hSc ?_
        case hy => (intro w hSw; (try dsimp only at hSw); go_simp; try with_reducible rfl)
        simp only [Act.put, List.setIfInBounds_toArray, List.set_cons_zero, List.set_cons_succ]
        refine takeQ_at (i := 3) (d := some 34) (v := ?_) rfl rfl (by kernel_rfl) (by kernel_rfl) (by kernel_rfl) (fun _ _ _ h => h) (Or.inl ⟨by rfl, ?hy⟩) hSc ?_
        case hy => (intro w hSw; (try dsimp only at hSw); go_simp; try with_reducible rfl)
        simp only [Act.put, List.setIfInBounds_toArray, List.set_cons_zero, List.set_cons_succ]
        refine takeQ_at (i := 4) (d := some 35) (v := ?_) rfl rfl (by kernel_rfl) (by kernel_rfl) (by kernel_rfl) (fun _ _ _ h => h) (Or.inl ⟨by rfl, ?hy⟩) hSc ?_
        case hy => (intro w hSw; (try dsimp only at hSw); go_simp; try with_reducible rfl)
        simp only [Act.put, List.setIfInBounds_toArray, List.set_cons_zero, List.set_cons_succ]
        refine takeQ_at (i := 5) (d := some 36) (v := ?_) rfl rfl (by kernel_rfl) (by kernel_rfl) (by kernel_rfl) (fun _ _ _ h => h) (Or.inl ⟨by rfl, ?hy⟩) hSc ?_
        case hy => (intro w hSw; (try dsimp only at hSw); go_simp; try with_reducible rfl)
        simp only [Act.put, List.setIfInBounds_toArray, List.set_cons_zero, List.set_cons_succ]
        refine wpAnyH_ready (rs := [1]) (by kernel_rfl) (by simp) ?_
        refine AllReadyH.cons rfl (fun K hK => ?_) AllReadyH.nil
        go_simp
        refine CN.mono ?_
        rintro e v9 ⟨rfl, rfl⟩
        refine hK.out _ _ s0 (fun hSn => ?_)
        clear hK K
        refine wpAnyH_ready (rs := [6]) (by kernel_rfl) (by simp) ?_
        refine AllReadyH.cons rfl (fun K hK => ?_) AllReadyH.nil
        go_simp
        refine CG.mono ?_
        rintro e w6 ⟨hc6, ev6, rfl, _, hb6⟩
        have s6 := HK.out w6 hb6
        have HB6 := Lib.hid hb6
        have hfd := sgq_field2 (.int .i64 (t2.L : Int)) (.int .i64 (wd t2.L : Int)) ev6 (.int .i64 (t2.live : Int)) (.int .i64 (t2.births : Int)) (.int .i64 (t2.made : Int)) (some ⟨hc6, 0, none⟩) NL NL
        clear hb6
        refine hK.out _ _ s6 (fun hSn2 => ?_)
        clear hK K
        refine takeQ_at (i := 7) (d := some 38) (v := ?_) rfl rfl (by kernel_rfl) (by kernel_rfl) (by kernel_rfl) (fun _ _ _ h => h) (Or.inl ⟨by rfl, ?hy⟩) s6 ?_
        case hy => (intro w hSw; (try dsimp only at hSw); go_simp; try with_reducible rfl)
        simp only [Act.put, List.setIfInBounds_toArray, List.set_cons_zero, List.set_cons_succ]
        refine takeQ_at (i := 8) (d := some 39) (v := ?_) rfl rfl (by kernel_rfl) (by kernel_rfl) (by kernel_rfl) (fun _ _ _ h => h) (Or.inl ⟨by rfl, ?hy⟩) s6 ?_
        case hy => (intro w hSw; (try dsimp only at hSw); go_simp; try with_reducible rfl)
        simp only [Act.put, List.setIfInBounds_toArray, List.set_cons_zero, List.set_cons_succ]
        refine takeQ_at (i := 9) (d := some 40) (v := ?_) rfl rfl (by kernel_rfl) (by kernel_rfl) (by kernel_rfl) (fun _ _ _ h => h) (Or.inl ⟨by rfl, ?hy⟩) s6 ?_
        case hy => (intro w hSw; (try dsimp only at hSw); go_simp; try with_reducible rfl)
        simp only [Act.put, List.setIfInBounds_toArray, List.set_cons_zero, List.set_cons_succ]
        refine takeQ_at (i := 10) (d := some 41) (v := .bool true) rfl rfl (by kernel_rfl) (by kernel_rfl) (by kernel_rfl) (fun _ _ _ h => h) (Or.inl ⟨by rfl, ?hy⟩) s6 ?_
        case hy => (intro w hSw; (try dsimp only at hSw); go_simp; try with_reducible rfl)
        simp only [Act.put, List.setIfInBounds_toArray, List.set_cons_zero, List.set_cons_succ]
        refine takeQ_at (i := 11) (d := some 42) (v := ?_) rfl rfl (by kernel_rfl) (by kernel_rfl) (by kernel_rfl) (fun _ _ _ h => h) (Or.inl ⟨by rfl, ?hy⟩) s6 ?_
        case hy => (intro w hSw; (try dsimp only at hSw); go_simp; try with_reducible rfl)
        simp only [Act.put, List.setIfInBounds_toArray, List.set_cons_zero, List.set_cons_succ]
        refine takeQ_at (i := 12) (d := some 43) (v := ?_) rfl rfl (by kernel_rfl) (by kernel_rfl) (by kernel_rfl) (fun _ _ _ h => h) (Or.inl ⟨by rfl, ?hy⟩) s6 ?_
        case hy => (intro w hSw; (try dsimp only at hSw); go_simp; try with_reducible rfl)
        simp only [Act.put, List.setIfInBounds_toArray, List.set_cons_zero, List.set_cons_succ]
        refine takeQ_at (i := 13) (d := some 44) (v := ?_) rfl rfl (by kernel_rfl) (by kernel_rfl) (by kernel_rfl) (fun _ _ _ h => h) (Or.inl ⟨by rfl, ?hy⟩) s6 ?_
        case hy => (intro w hSw; (try dsimp only at hSw); go_simp; try with_reducible rfl)
        simp only [Act.put, List.setIfInBounds_toArray, List.set_cons_zero, List.set_cons_succ]
        refine takeQ_at (i := 14) (d := some 45) (v := ?_) rfl rfl (by kernel_rfl) (by kernel_rfl) (by kernel_rfl) (fun _ _ _ h => h) (Or.inl ⟨by rfl, ?hy⟩) s6 ?_
        case hy => (intro w hSw; (try dsimp only at hSw); go_simp; try with_reducible rfl)
        simp only [Act.put, List.setIfInBounds_toArray, List.set_cons_zero, List.set_cons_succ]
        refine takeQ_at (i := 15) (d := some 46) (v := ?_) rfl rfl (by kernel_rfl) (by kernel_rfl) (by kernel_rfl) (fun _ _ _ h => h) (Or.inl ⟨by rfl, ?hy⟩) s6 ?_
        case hy => (intro w hSw; (try dsimp only at hSw); go_simp; try with_reducible rfl)
        simp only [Act.put]
        refine wpAnyH_done (by kernel_rfl) ?_ _
        refine NoPanic.normal ?_
      case' inr =>
        have hdc : decide ((NL : Int) + 13 < vn) = false := decide_eq_false hbig
        clear hbig
        refine wp_region_noPanic ?_
        refine wp_region_held_drew (S := fun V => V.cell? ⟨r, 0, none⟩ = some (.pointer (some ⟨d, 0, none⟩)) ∧ V.cell? ⟨w4.heap.size, 0, none⟩ = some (.int .i64 u.kind)) (by kernel_rfl) s0 (fun hSc => ?_)
        refine takeQ_at (i := 0) (d := some 31) (v := ?_) rfl rfl (by kernel_rfl) (by kernel_rfl) (by kernel_rfl) (fun _ _ _ h => h) (Or.inl ⟨by rfl, ?hy⟩) hSc ?_
        case hy => (intro w hSw; (try dsimp only at hSw); go_simp; try with_reducible rfl)
        simp only [Act.put, List.setIfInBounds_toArray, List.set_cons_zero, List.set_cons_succ]
        refine takeQ_at (i := 2) (d := some 33) (v := ?_) rfl rfl (by kernel_rfl) (by kernel_rfl) (by kernel_rfl) (fun _ _ _ h => h) (Or.inl ⟨by rfl, ?hy⟩) hSc ?_
        case hy => (intro w hSw; (try dsimp only at hSw); go_simp; try with_reducible rfl)
        simp only [Act.put, List.setIfInBounds_toArray, List.set_cons_zero, List.set_cons_succ]
        refine takeQ_at (i := 3) (d := some 34) (v := ?_) rfl rfl (by kernel_rfl) (by kernel_rfl) (by kernel_rfl) (fun _ _ _ h => h) (Or.inl ⟨by rfl, ?hy⟩) hSc ?_
        case hy => (intro w hSw; (try dsimp only at hSw); go_simp; try with_reducible rfl)
        simp only [Act.put, List.setIfInBounds_toArray, List.set_cons_zero, List.set_cons_succ]
        refine takeQ_at (i := 4) (d := some 35) (v := ?_) rfl rfl (by kernel_rfl) (by kernel_rfl) (by kernel_rfl) (fun _ _ _ h => h) (Or.inl ⟨by rfl, ?hy⟩) hSc ?_
        case hy => (intro w hSw; (try dsimp only at hSw); go_simp; try with_reducible rfl)
        simp only [Act.put, List.setIfInBounds_toArray, List.set_cons_zero, List.set_cons_succ]
        refine takeQ_at (i := 5) (d := some 36) (v := ?_) rfl rfl (by kernel_rfl) (by kernel_rfl) (by kernel_rfl) (fun _ _ _ h => h) (Or.inl ⟨by rfl, ?hy⟩) hSc ?_
        case hy => (intro w hSw; (try dsimp only at hSw); go_simp; try with_reducible rfl)
        simp only [Act.put, List.setIfInBounds_toArray, List.set_cons_zero, List.set_cons_succ]
        refine wpAnyH_ready (rs := [1]) (by kernel_rfl) (by simp) ?_
        refine AllReadyH.cons rfl (fun K hK => ?_) AllReadyH.nil
        go_simp
        refine CN.mono ?_
        rintro e v9 ⟨rfl, rfl⟩
        refine hK.out _ _ s0 (fun hSn => ?_)
        clear hK K
        refine wpAnyH_ready (rs := [6]) (by kernel_rfl) (by simp) ?_
        refine AllReadyH.cons rfl (fun K hK => ?_) AllReadyH.nil
        go_simp
        refine CG.mono ?_
        rintro e w6 ⟨hc6, ev6, rfl, _, hb6⟩
        have s6 := HK.out w6 hb6
        have HB6 := Lib.hid hb6
        have hfd := sgq_field2 (.int .i64 (t2.L : Int)) (.int .i64 (wd t2.L : Int)) ev6 (.int .i64 (t2.live : Int)) (.int .i64 (t2.births : Int)) (.int .i64 (t2.made : Int)) (some ⟨hc6, 0, none⟩) NL NL
        clear hb6
        refine hK.out _ _ s6 (fun hSn2 => ?_)
        clear hK K
        refine takeQ_at (i := 7) (d := some 38) (v := ?_) rfl rfl (by kernel_rfl) (by kernel_rfl) (by kernel_rfl) (fun _ _ _ h => h) (Or.inl ⟨by rfl, ?hy⟩) s6 ?_
        case hy => (intro w hSw; (try dsimp only at hSw); go_simp; try with_reducible rfl)
        simp only [Act.put, List.setIfInBounds_toArray, List.set_cons_zero, List.set_cons_succ]
        refine takeQ_at (i := 8) (d := some 39) (v := ?_) rfl rfl (by kernel_rfl) (by kernel_rfl) (by kernel_rfl) (fun _ _ _ h => h) (Or.inl ⟨by rfl, ?hy⟩) s6 ?_
        case hy => (intro w hSw; (try dsimp only at hSw); go_simp; try with_reducible rfl)
        simp only [Act.put, List.setIfInBounds_toArray, List.set_cons_zero, List.set_cons_succ]
        refine takeQ_at (i := 9) (d := some 40) (v := ?_) rfl rfl (by kernel_rfl) (by kernel_rfl) (by kernel_rfl) (fun _ _ _ h => h) (Or.inl ⟨by rfl, ?hy⟩) s6 ?_
        case hy => (intro w hSw; (try dsimp only at hSw); go_simp; try with_reducible rfl)
        simp only [Act.put, List.setIfInBounds_toArray, List.set_cons_zero, List.set_cons_succ]
        refine takeQ_at (i := 10) (d := some 41) (v := .bool false) rfl rfl (by kernel_rfl) (by kernel_rfl) (by kernel_rfl) (fun _ _ _ h => h) (Or.inl ⟨by rfl, ?hy⟩) s6 ?_
        case hy => (intro w hSw; (try dsimp only at hSw); go_simp; try with_reducible rfl)
        simp only [Act.put, List.setIfInBounds_toArray, List.set_cons_zero, List.set_cons_succ]
        refine takeQ_at (i := 11) (d := some 42) (v := ?_) rfl rfl (by kernel_rfl) (by kernel_rfl) (by kernel_rfl) (fun _ _ _ h => h) (Or.inl ⟨by rfl, ?hy⟩) s6 ?_
        case hy => (intro w hSw; (try dsimp only at hSw); go_simp; try with_reducible rfl)
        simp only [Act.put, List.setIfInBounds_toArray, List.set_cons_zero, List.set_cons_succ]
        refine takeQ_at (i := 12) (d := some 43) (v := undef) rfl rfl (by kernel_rfl) (by kernel_rfl) (by kernel_rfl) (fun _ _ _ h => h) (Or.inr ⟨by rfl, rfl⟩) s6 ?_
        simp only [Act.put, List.setIfInBounds_toArray, List.set_cons_zero, List.set_cons_succ]
        refine takeQ_at (i := 13) (d := some 44) (v := undef) rfl rfl (by kernel_rfl) (by kernel_rfl) (by kernel_rfl) (fun _ _ _ h => h) (Or.inr ⟨by rfl, rfl⟩) s6 ?_
        simp only [Act.put, List.setIfInBounds_toArray, List.set_cons_zero, List.set_cons_succ]
        refine takeQ_at (i := 14) (d := some 45) (v := undef) rfl rfl (by kernel_rfl) (by kernel_rfl) (by kernel_rfl) (fun _ _ _ h => h) (Or.inr ⟨by rfl, rfl⟩) s6 ?_
        simp only [Act.put, List.setIfInBounds_toArray, List.set_cons_zero, List.set_cons_succ]
        refine takeQ_at (i := 15) (d := some 46) (v := ?_) rfl rfl (by kernel_rfl) (by kernel_rfl) (by kernel_rfl) (fun _ _ _ h => h) (Or.inl ⟨by rfl, ?hy⟩) s6 ?_
        case hy => (intro w hSw; (try dsimp only at hSw); go_simp; try with_reducible rfl)
        simp only [Act.put]
        refine wpAnyH_done (by kernel_rfl) ?_ _
        refine NoPanic.normal ?_
      all_goals
        clear s0 s6 hfd
        have R6 := HR5.out.below HB6.out
        have hT6 := HT5.out.of HB6.out (by omega)
        have hC6 : Cb w6 w.heap.size c zT := ⟨HC5.out.box.of HB6.out (by omega), HC5.out.res.of HB6.out (by omega)⟩
        have nrX : ∀ k, w.heap.size ≤ k → k < w.heap.size + 2 → ¬ rqX r d g gi2 rr2 h2 ev2 av1 k := fun k g1 g2 y => by
          rcases R6.fx k y with z | z
          · have := HRX.out k z; omega
          · omega
        have ntX : ¬ rqX r d g gi2 rr2 h2 ev2 av1 w4.heap.size := fun y => Nat.lt_irrefl _ (HLT4.out _ y)
        obtain ⟨w7, hw7⟩ : ∃ V, w6.setCell ⟨w4.heap.size, 4, none⟩ (.int .i64 0) = V := ⟨_, rfl⟩
        have hT7 : Blk w7 w4.heap.size 5 (fun y => if y = 4 then .int .i64 0 else #[Value.int .i64 u.kind, .int .i64 u.key, .bool u.found, .int .i64 u.value, .int .i64 u.entry].getD y .nilFunc) := by rw [← hw7]; exact hT6.put 4 _
        have hx7 : Ex (fun k => k = w4.heap.size) w6 w7 := by rw [← hw7]; exact (Ex.refl (fun k => k = w4.heap.size) w6).setCell (p := ⟨w4.heap.size, 4, none⟩) (fun _ => rfl) _
        have hres7 : Blk w7 (w.heap.size + 1) 5 zT := hC6.res.same (hx7.block _ (hC6.res.lt (by omega)) (fun e => by omega))
        obtain ⟨w9, hw9⟩ : ∃ V, put5 w7 (w.heap.size + 1) (.int .i64 u.kind) (.int .i64 u.key) (.bool u.found) (.int .i64 u.value) (.int .i64 0) = V := ⟨_, rfl⟩
        have hR9 : Blk w9 (w.heap.size + 1) 5 (fun j => [Value.int .i64 u.kind, .int .i64 u.key, .bool u.found, .int .i64 u.value, .int .i64 0].getD j .nilFunc) := by rw [← hw9]; exact put5_blk hres7 _ _ _ _ _
        have hx9 : Ex (fun k => k = w.heap.size + 1) w7 w9 := by rw [← hw9]; exact put5_ex _ _ _ _ _ _ _
        have HFIN := Lib.hid ((((R6.old HB12.out).mod hx7 (fun k hk => by
          have hk' : k = w4.heap.size := hk
          subst hk'
          exact ⟨by have := R6.ex.size; have := HL.out.rq.ex.size; have := HLE4.out; omega, ntX⟩)).mod (Y := fun k => k = w.heap.size + 1) hx9 (fun k hk => by
          have hk' : k = w.heap.size + 1 := hk
          subst hk'
          exact ⟨by omega, nrX _ (by omega) (by omega)⟩)))
        have q0c : w6.cell? ⟨w4.heap.size, 0, none⟩ = some (.int .i64 u.kind) := hT6.c 0 (by omega)
        have q4c : w6.cell? ⟨w4.heap.size, 4, none⟩ = some (.int .i64 u.entry) := hT6.c 4 (by omega)
        have q4z : w6.frozen? ⟨w4.heap.size, 4, none⟩ = false := hT6.z 4
        have f0 : w7.cell? ⟨w4.heap.size, 0, none⟩ = some (.int .i64 u.kind) := hT7.c 0 (by omega)
        have f1 : w7.cell? ⟨w4.heap.size, 1, none⟩ = some (.int .i64 u.key) := hT7.c 1 (by omega)
        have f2 : w7.cell? ⟨w4.heap.size, 2, none⟩ = some (.bool u.found) := hT7.c 2 (by omega)
        have f3 : w7.cell? ⟨w4.heap.size, 3, none⟩ = some (.int .i64 u.value) := hT7.c 3 (by omega)
        have f4 : w7.cell? ⟨w4.heap.size, 4, none⟩ = some (.int .i64 0) := hT7.c 4 (by omega)
        have z0 : w7.frozen? ⟨w.heap.size + 1, 0, none⟩ = false := hres7.z 0
        have z1 : w7.frozen? ⟨w.heap.size + 1, 1, none⟩ = false := hres7.z 1
        have z2 : w7.frozen? ⟨w.heap.size + 1, 2, none⟩ = false := hres7.z 2
        have z3 : w7.frozen? ⟨w.heap.size + 1, 3, none⟩ = false := hres7.z 3
        have z4 : w7.frozen? ⟨w.heap.size + 1, 4, none⟩ = false := hres7.z 4
        have zc0 : w7.cell? ⟨w.heap.size + 1, 0, none⟩ = some (.int .i64 0) := hres7.c 0 (by omega)
        have zc1 : w7.cell? ⟨w.heap.size + 1, 1, none⟩ = some (.int .i64 0) := hres7.c 1 (by omega)
        have zc2 : w7.cell? ⟨w.heap.size + 1, 2, none⟩ = some (.bool false) := hres7.c 2 (by omega)
        have zc3 : w7.cell? ⟨w.heap.size + 1, 3, none⟩ = some (.int .i64 0) := hres7.c 3 (by omega)
        have zc4 : w7.cell? ⟨w.heap.size + 1, 4, none⟩ = some (.int .i64 0) := hres7.c 4 (by omega)
        have o0 : w9.cell? ⟨w.heap.size + 1, 0, none⟩ = some (.int .i64 u.kind) := hR9.c 0 (by omega)
        have o1 : w9.cell? ⟨w.heap.size + 1, 1, none⟩ = some (.int .i64 u.key) := hR9.c 1 (by omega)
        have o2 : w9.cell? ⟨w.heap.size + 1, 2, none⟩ = some (.bool u.found) := hR9.c 2 (by omega)
        have o3 : w9.cell? ⟨w.heap.size + 1, 3, none⟩ = some (.int .i64 u.value) := hR9.c 3 (by omega)
        have o4 : w9.cell? ⟨w.heap.size + 1, 4, none⟩ = some (.int .i64 0) := hR9.c 4 (by omega)
        have HW7 := Lib.hid hw7
        have HW9 := Lib.hid hw9
        unfold put5 at HW9
        have HQ9 := Lib.hid hq9
        clear hw7 hw9 hR9 hT6 hT7 hC6 R6 hres7 hx7 hx9 nrX ntX hq9 CN CG
        go_upto_region 12 with fail
        rw [HW7.out]
        go_wp2_with fail
        rw [HW9.out]
        refine bodyPost_ret (v := .tuple #[.agg #[.int .i64 u.kind, .int .i64 u.key, .bool u.found, .int .i64 u.value, .int .i64 0], .bool true]) ?_ rfl (rcQ_of (by rw [← HEND.out]; rfl) (by rw [HQQ.out, ← HQ9.out.1]; exact HFIN.out))
        simp [results, Tryz.results7, go_sem, o0, o1, o2, o3, o4]
    · -- it asks
      have R4 := HL.out.rq.step hp rfl (fun _ => rfl) (Nat.le_refl _) (fun _ hk => .inl hk) hex HL.out.nx HL.out.ns
      have hs4 := R4.ex.size
      have hsn' : w2.drew.heap.size ≤ s := by
        rcases hsn with y | y
        · exact HL.out.ns s y
        · have := HL.out.rq.ex.size; omega
      have hC4 : Cb w4 w.heap.size c zT := by
        have nb : ∀ k, w.heap.size ≤ k → k < w.heap.size + 2 → w4.heap[k]? = wr.heap[k]? := fun k g1 g2 => hex.block k (by have := HL.out.rq.ex.size; omega) (fun y => by
          rcases y with y | y | y
          · rcases HL.out.rq.fx k y with z | z
            · have := HRX.out k z; omega
            · omega
          · have := HL.out.nx; omega
          · have := HL.out.ns k y; omega)
        exact ⟨HC.out.box.same (nb _ (by omega) (by omega)), HC.out.res.same (nb _ (by omega) (by omega))⟩
      have huk : u.kind = 1 := by rw [hu]
      have huy : u.key = ((pqs t1.es).getD i default).key := by rw [hu]
      have CN := scan_any (w := w5.drew) (Blk.of hm1.mc hb5.drew (by omega)) (Blk.c (Blk.of hSw.sk hb5.drew (by omega)) 7 (by omega))
      have p5 := (hp.below hb5).same (w' := w5.drew) fun _ _ => rfl
      have CG := psight_any p5.dc
      have hP : 2 ^ t1.L ≤ 1048576 := Nat.le_trans (Nat.pow_le_pow_right (n := 2) (by decide) p5.dc.ok.sz.2) (by decide)
      have hjf := hSw.le
      have hff := hSw.lt
      have HK : Hid (∀ V, Below w5.drew.heap.size w5.drew V → V.cell? ⟨r, 0, none⟩ = some (.pointer (some ⟨d, 0, none⟩)) ∧ V.cell? ⟨w4.heap.size, 0, none⟩ = some (.int .i64 u.kind)) := fun V hb => ⟨(p5.below hb).hd.c 0 (by omega), ((Blk.same (w' := w5.drew) hT5 rfl).of hb (by omega)).c 0 (by omega)⟩
      have s0 := HK.out w5.drew (Below.refl _ _)
      have hkn : (u.kind != 1) = false := by simp [huk]
      have hC5 : Cb w5.drew w.heap.size c zT := ⟨hC4.box.of hb5.drew (by omega), hC4.res.of hb5.drew (by omega)⟩
      have hT5d : Blk w5.drew w4.heap.size 5 (fun j => #[Value.int .i64 u.kind, .int .i64 u.key, .bool u.found, .int .i64 u.value, .int .i64 u.entry].getD j .nilFunc) := Blk.same (w' := w5.drew) hT5 rfl
      have hsz5 : w5.drew.heap.size = w4.heap.size + 1 := hs5
      have HB5 : Hid (Below w4.heap.size w4 w5.drew) := hb5.drew
      have HR4 := Lib.hid R4
      have HP4 := Lib.hid hp
      have HC5 := Lib.hid hC5
      have HT5 := Lib.hid hT5d
      have HM1 := Lib.hid hm1
      have HTOLD := Lib.hid (toldQ_of HL.out hii hhi hkey hFd hm1 hmv hms hms1 hma hSw hnl hll hlp hUp hsn' R4)
      have HK1 : Hid (m1.u.kind = 1) := by
        have e : m1.u.kind = 1 := by rw [hmu]; exact huk
        exact Lib.hid e
      have HUY := Lib.hid huy
      unfold sgV at CG
      generalize 2 ^ t1.L = NL at hP CG hff
      generalize hVN : ((j : Nat) : Int) = vn at CN
      have n13 : IntKind.i64.wrap ((NL : Int) + 13) = (NL : Int) + 13 := i64_small (by omega) (by omega)
      have hdc : decide ((NL : Int) + 13 < vn) = false := decide_eq_false (by omega)
      clear hii hhi hkey hFd hp hex hm1 hmu hmv hms hms1 hma hSw hnl hll hlp hUp hsn hsn' R4 hC4 p5 hb5 hT5 hC5 hT5d hw5 hu huy huk
      go_upto_region 8 with fail
      rw [HW5.out]
      refine wp_region_noPanic ?_
      refine wp_region_held_drew (S := fun V => V.cell? ⟨r, 0, none⟩ = some (.pointer (some ⟨d, 0, none⟩)) ∧ V.cell? ⟨w4.heap.size, 0, none⟩ = some (.int .i64 u.kind)) (by kernel_rfl) s0 (fun hSc => ?_)
      refine takeQ_at (i := 0) (d := some 31) (v := ?_) rfl rfl (by kernel_rfl) (by kernel_rfl) (by kernel_rfl) (fun _ _ _ h => h) (Or.inl ⟨by rfl, ?hy⟩) hSc ?_
      case hy => (intro w hSw; (try dsimp only at hSw); go_simp; try with_reducible rfl)
      simp only [Act.put, List.setIfInBounds_toArray, List.set_cons_zero, List.set_cons_succ]
      refine takeQ_at (i := 2) (d := some 33) (v := ?_) rfl rfl (by kernel_rfl) (by kernel_rfl) (by kernel_rfl) (fun _ _ _ h => h) (Or.inl ⟨by rfl, ?hy⟩) hSc ?_
      case hy => (intro w hSw; (try dsimp only at hSw); go_simp; try with_reducible rfl)
      simp only [Act.put, List.setIfInBounds_toArray, List.set_cons_zero, List.set_cons_succ]
      refine takeQ_at (i := 3) (d := some 34) (v := ?_) rfl rfl (by kernel_rfl) (by kernel_rfl) (by kernel_rfl) (fun _ _ _ h => h) (Or.inl ⟨by rfl, ?hy⟩) hSc ?_
      case hy => (intro w hSw; (try dsimp only at hSw); go_simp; try with_reducible rfl)
      simp only [Act.put, List.setIfInBounds_toArray, List.set_cons_zero, List.set_cons_succ]
      refine takeQ_at (i := 4) (d := some 35) (v := ?_) rfl rfl (by kernel_rfl) (by kernel_rfl) (by kernel_rfl) (fun _ _ _ h => h) (Or.inl ⟨by rfl, ?hy⟩) hSc ?_
      case hy => (intro w hSw; (try dsimp only at hSw); go_simp; try with_reducible rfl)
      simp only [Act.put, List.setIfInBounds_toArray, List.set_cons_zero, List.set_cons_succ]
      refine takeQ_at (i := 5) (d := some 36) (v := ?_) rfl rfl (by kernel_rfl) (by kernel_rfl) (by kernel_rfl) (fun _ _ _ h => h) (Or.inl ⟨by rfl, ?hy⟩) hSc ?_
      case hy => (intro w hSw; (try dsimp only at hSw); go_simp; try with_reducible rfl)
      simp only [Act.put, List.setIfInBounds_toArray, List.set_cons_zero, List.set_cons_succ]
      refine wpAnyH_ready (rs := [1]) (by kernel_rfl) (by simp) ?_
      refine AllReadyH.cons rfl (fun K hK => ?_) AllReadyH.nil
      go_simp
      refine CN.mono ?_
      rintro e v9 ⟨rfl, rfl⟩
      refine hK.out _ _ s0 (fun hSn => ?_)
      clear hK K
      refine wpAnyH_ready (rs := [6]) (by kernel_rfl) (by simp) ?_
      refine AllReadyH.cons rfl (fun K hK => ?_) AllReadyH.nil
      go_simp
      refine CG.mono ?_
      rintro e w6 ⟨hc6, ev6, rfl, _, hb6⟩
      have s6 := HK.out w6 hb6
      have HB6 := Lib.hid hb6
      have hfd := sgq_field2 (.int .i64 (t1.L : Int)) (.int .i64 (wd t1.L : Int)) ev6 (.int .i64 (t1.live : Int)) (.int .i64 (t1.births : Int)) (.int .i64 (t1.made : Int)) (some ⟨hc6, 0, none⟩) NL NL
      clear hb6
      refine hK.out _ _ s6 (fun hSn2 => ?_)
      clear hK K
      refine takeQ_at (i := 7) (d := some 38) (v := ?_) rfl rfl (by kernel_rfl) (by kernel_rfl) (by kernel_rfl) (fun _ _ _ h => h) (Or.inl ⟨by rfl, ?hy⟩) s6 ?_
      case hy => (intro w hSw; (try dsimp only at hSw); go_simp; try with_reducible rfl)
      simp only [Act.put, List.setIfInBounds_toArray, List.set_cons_zero, List.set_cons_succ]
      refine takeQ_at (i := 8) (d := some 39) (v := ?_) rfl rfl (by kernel_rfl) (by kernel_rfl) (by kernel_rfl) (fun _ _ _ h => h) (Or.inl ⟨by rfl, ?hy⟩) s6 ?_
      case hy => (intro w hSw; (try dsimp only at hSw); go_simp; try with_reducible rfl)
      simp only [Act.put, List.setIfInBounds_toArray, List.set_cons_zero, List.set_cons_succ]
      refine takeQ_at (i := 9) (d := some 40) (v := ?_) rfl rfl (by kernel_rfl) (by kernel_rfl) (by kernel_rfl) (fun _ _ _ h => h) (Or.inl ⟨by rfl, ?hy⟩) s6 ?_
      case hy => (intro w hSw; (try dsimp only at hSw); go_simp; try with_reducible rfl)
      simp only [Act.put, List.setIfInBounds_toArray, List.set_cons_zero, List.set_cons_succ]
      refine takeQ_at (i := 10) (d := some 41) (v := .bool false) rfl rfl (by kernel_rfl) (by kernel_rfl) (by kernel_rfl) (fun _ _ _ h => h) (Or.inl ⟨by rfl, ?hy⟩) s6 ?_
      case hy => (intro w hSw; (try dsimp only at hSw); go_simp; try with_reducible rfl)
      simp only [Act.put, List.setIfInBounds_toArray, List.set_cons_zero, List.set_cons_succ]
      refine takeQ_at (i := 11) (d := some 42) (v := ?_) rfl rfl (by kernel_rfl) (by kernel_rfl) (by kernel_rfl) (fun _ _ _ h => h) (Or.inl ⟨by rfl, ?hy⟩) s6 ?_
      case hy => (intro w hSw; (try dsimp only at hSw); go_simp; try with_reducible rfl)
      simp only [Act.put, List.setIfInBounds_toArray, List.set_cons_zero, List.set_cons_succ]
      refine takeQ_at (i := 12) (d := some 43) (v := undef) rfl rfl (by kernel_rfl) (by kernel_rfl) (by kernel_rfl) (fun _ _ _ h => h) (Or.inr ⟨by rfl, rfl⟩) s6 ?_
      simp only [Act.put, List.setIfInBounds_toArray, List.set_cons_zero, List.set_cons_succ]
      refine takeQ_at (i := 13) (d := some 44) (v := undef) rfl rfl (by kernel_rfl) (by kernel_rfl) (by kernel_rfl) (fun _ _ _ h => h) (Or.inr ⟨by rfl, rfl⟩) s6 ?_
      simp only [Act.put, List.setIfInBounds_toArray, List.set_cons_zero, List.set_cons_succ]
      refine takeQ_at (i := 14) (d := some 45) (v := undef) rfl rfl (by kernel_rfl) (by kernel_rfl) (by kernel_rfl) (fun _ _ _ h => h) (Or.inr ⟨by rfl, rfl⟩) s6 ?_
      simp only [Act.put, List.setIfInBounds_toArray, List.set_cons_zero, List.set_cons_succ]
      refine takeQ_at (i := 15) (d := some 46) (v := ?_) rfl rfl (by kernel_rfl) (by kernel_rfl) (by kernel_rfl) (fun _ _ _ h => h) (Or.inl ⟨by rfl, ?hy⟩) s6 ?_
      case hy => (intro w hSw; (try dsimp only at hSw); go_simp; try with_reducible rfl)
      simp only [Act.put]
      refine wpAnyH_done (by kernel_rfl) ?_ _
      refine NoPanic.normal ?_
      clear s0 s6 hfd hdc n13 CN CG
      have p6 := ((HP4.out.below HB5.out).below HB6.out)
      have hT6 := HT5.out.of HB6.out (by omega)
      have hC6 : Cb w6 w.heap.size c zT := ⟨HC5.out.box.of HB6.out (by omega), HC5.out.res.of HB6.out (by omega)⟩
      have q0c : w6.cell? ⟨w4.heap.size, 0, none⟩ = some (.int .i64 u.kind) := hT6.c 0 (by omega)
      have q1c : w6.cell? ⟨w4.heap.size, 1, none⟩ = some (.int .i64 u.key) := hT6.c 1 (by omega)
      have b2c : w6.cell? ⟨w.heap.size, 2, none⟩ = some (.int .i64 c.key) := hC6.box.c 2 (by omega)
      have x4 : w6.cell? ⟨r, 4, none⟩ = some (.bool false) := p6.hd.c 4 (by omega)
      have HB46 : Hid (Below w4.heap.size w4 w6) := HB5.out.trans (HB6.out.mono HB5.out.size)
      have HC6 := Lib.hid hC6
      obtain ⟨i0, hi0, hz0, hz1, hz2⟩ := info_parts Tryz.infoI8
      obtain ⟨wd, hwd⟩ : ∃ V, w6.drew = V := ⟨_, rfl⟩
      have p6d := p6.same (w' := wd) fun k _ => by rw [← hwd]; rfl
      have hT6d := hT6.same (w' := wd) (by rw [← hwd]; rfl)
      have hb46d : Below w4.heap.size w4 wd := by rw [← hwd]; exact HB46.out.drew
      have HWD := Lib.hid hwd
      have s0d : wd.cell? ⟨w4.heap.size, 1, none⟩ = some (.int .i64 u.key) := hT6d.c 1 (by omega)
      have s0 : w6.drew.cell? ⟨w4.heap.size, 1, none⟩ = some (.int .i64 u.key) := by rw [hwd]; exact s0d
      obtain ⟨ax, capx, hav, y0, hown0, HP⟩ := rask_push p6d u.key
      obtain ⟨oA, hoA⟩ : ∃ o : Obj, Obj.cells #[.int .i64 u.key] 3 = o := ⟨_, rfl⟩
      have hba : Below wd.heap.size wd (wd.alloc oA) := (Below.refl _ wd).alloc (Nat.le_refl _) _
      have y0a : (wd.alloc oA).cell? ⟨r, 1, none⟩ = some (.slice ax q9.length capx) := by
        have z := (p6d.below hba).hd.c 1 (by omega)
        rw [show rqF d av1 tv same false 1 = av1 from rfl, hav] at z
        exact z
      have s2 : (wd.alloc oA).cell? ⟨w4.heap.size, 1, none⟩ = some (.int .i64 u.key) := (hT6d.of hba (by omega)).c 1 (by omega)
      have hown : (wd.alloc oA).ownsRow 0 3 1 (.slice ax q9.length capx) q9.length (q9.map fun x : Int => Value.int .i64 x) := World.ownsRow.alloc hown0 _
      have nT : ¬ rqX r d g gi1 rr1 h1 ev1 av1 w4.heap.size := fun y => Nat.lt_irrefl _ (HP4.out.lt _ y)
      have lT : w4.heap.size < wd.heap.size := hT6d.lt (by omega)
      have HF14 : Hid (∀ v' w5, w5.ownsRow 0 3 1 v' (q9.length + 1) ((q9.map fun x : Int => Value.int .i64 x) ++ [.int .i64 u.key]) → (wd.alloc oA).grownBy w5 (Value.slice ax q9.length capx).ownBlock → (v'.ownBlock = (Value.slice ax q9.length capx).ownBlock ∨ v'.ownBlock = some (wd.alloc oA).heap.size) →
          w5.cell? ⟨w4.heap.size, 1, none⟩ = some (.int .i64 u.key) ∧ w5.cell? ⟨r, 1, none⟩ = some (.slice ax q9.length capx) ∧ w5.frozen? ⟨r, 1, none⟩ = false ∧ (w5.setCell ⟨r, 1, none⟩ v').cell? ⟨w4.heap.size, 1, none⟩ = some (.int .i64 u.key) ∧ RqR wd r d g gi1 rr1 h1 ev1 av1 tv t1 most v1 same (pqs t1.es) v1 (q9 ++ [u.key]) false (w5.setCell ⟨r, 1, none⟩ v') gi1 rr1 h1 ev1 v' t1) := fun v' w5 f1 f2 f3 => by
        obtain ⟨⟨e1, e2⟩, e3, e4⟩ := HP oA v' w5 f1 f2 f3
        obtain ⟨e5, e6⟩ := e3 _ lT nT
        exact ⟨(hT6d.same e5).c 1 (by omega), e1, e2, (hT6d.same e6).c 1 (by omega), e4 _ rfl⟩
      have HOWN := Lib.hid hown
      have HB46D := Lib.hid hb46d
      have HT6D := Lib.hid hT6d
      obtain ⟨hqe, hql⟩ := hq9
      have ln9 : q9.length ≤ 300000 := by rw [hqe]; omega
      have HQE := Lib.hid hqe
      have HQL := Lib.hid hql
      have elen : ((q9 ++ [u.key]).length : Int) - 1 = (q1.length : Int) := by rw [hqe]; simp
      have lenA : (q9 ++ [u.key]).length ≤ 1000000 := by simp; omega
      have HLE := Lib.hid elen
      have HLA := Lib.hid lenA
      subst hoA
      generalize hn9 : q9.length = n9 at *
      clear hn9
      clear p6 hT6 p6d hT6d hwd hown0 HP hba hown nT hb46d hqe hql elen lenA hav hC6 b2c q0c
      go_upto_region 14 with fail
      refine wp_region_noPanic ?_
      refine wp_region_held_drew (S := fun V => V.cell? ⟨w4.heap.size, 1, none⟩ = some (.int .i64 u.key)) (by kernel_rfl) s0 (fun hSc => ?_)
      rw [HWD.out]
      refine takeQ_at (i := 0) (d := some 58) (v := ?_) rfl rfl (by kernel_rfl) (by kernel_rfl) (by kernel_rfl) (fun _ _ _ h => h) (Or.inl ⟨by rfl, ?hy⟩) s0d ?_
      case hy => (intro w hSw; (try dsimp only at hSw); go_simp; try with_reducible rfl)
      simp only [Act.put, List.setIfInBounds_toArray, List.set_cons_zero, List.set_cons_succ]
      refine takeQ_at (i := 1) (d := some 59) (v := ?_) rfl rfl (by kernel_rfl) (by kernel_rfl) (by kernel_rfl) (fun _ _ _ h => h) (Or.inl ⟨by rfl, ?hy⟩) s0d ?_
      case hy => (intro w hSw; (try dsimp only at hSw); go_simp; try with_reducible rfl)
      simp only [Act.put, List.setIfInBounds_toArray, List.set_cons_zero, List.set_cons_succ]
      refine takeQ_at (i := 2) (d := some 60) (v := ?_) rfl rfl (by kernel_rfl) (by kernel_rfl) (by kernel_rfl) (fun _ _ _ h => h) (Or.inl ⟨by rfl, ?hy⟩) s0d ?_
      case hy => (intro w hSw; (try dsimp only at hSw); go_simp; try with_reducible rfl)
      simp only [Act.put, List.setIfInBounds_toArray, List.set_cons_zero, List.set_cons_succ]
      refine takeQ_at (i := 3) (d := some 61) (v := ?_) rfl rfl (by kernel_rfl) (by kernel_rfl) (by kernel_rfl) (fun _ _ _ h => h) (Or.inl ⟨by rfl, ?hy⟩) s0d ?_
      case hy => (intro w hSw; (try dsimp only at hSw); go_simp; try with_reducible rfl)
      simp only [Act.put, List.setIfInBounds_toArray, List.set_cons_zero, List.set_cons_succ]
      refine takeQ_at (i := 5) (d := some 63) (v := ?_) rfl rfl (by kernel_rfl) (by kernel_rfl) (by kernel_rfl) (fun _ _ _ h => h) (Or.inl ⟨by rfl, ?hy⟩) s0d ?_
      case hy => (intro w hSw; (try dsimp only at hSw); go_simp; try with_reducible rfl)
      simp only [Act.put, List.setIfInBounds_toArray, List.set_cons_zero, List.set_cons_succ]
      refine takeQ_at (i := 6) (d := some 64) (v := ?_) rfl rfl (by kernel_rfl) (by kernel_rfl) (by kernel_rfl) (fun _ _ _ h => h) (Or.inl ⟨by rfl, ?hy⟩) s0d ?_
      case hy => (intro w hSw; (try dsimp only at hSw); go_simp; try with_reducible rfl)
      simp only [Act.put, List.setIfInBounds_toArray, List.set_cons_zero, List.set_cons_succ]
      refine wpAnyH_ready (rs := [4, 7]) (by kernel_rfl) (by simp) ?_
      refine AllReadyH.cons rfl (fun K hK => ?_) (AllReadyH.cons rfl (fun K hK => ?_) AllReadyH.nil)
      rotate_left
      go_simp
      refine hK.out _ _ s2 (fun hSn => ?_)
      clear hK K
      refine wpAnyH_ready (rs := [4]) (by kernel_rfl) (by simp) ?_
      refine AllReadyH.cons rfl (fun K hK => ?_) AllReadyH.nil
      go_simp
      refine hK.out _ _ s2 (fun hSn => ?_)
      clear hK K
      refine wpAnyH_ready (rs := [8]) (by kernel_rfl) (by simp) ?_
      refine AllReadyH.cons rfl (fun K hK => ?_) AllReadyH.nil
      refine step_append_own rfl _ _ 30 rfl 0 3 i0 (.int .i64 0) 1 8 Tryz.underlying30 hi0 hz0 hz1 hz2 rfl (by decide) (.slice ax n9 capx) n9 (q9.map fun x : Int => Value.int .i64 x) (by simp [Act.eval]) HOWN.out ⟨wd.heap.size, 0, none⟩ 1 1 [.int .i64 u.key] (by simp [Act.eval]) rfl (new_int _ _ _) (by simp [Value.oneCell']) (by unfold maxLen; omega) (by omega) (Nat.zero_le _) ?_
      intro v' w5 hown2 hgrow hat
      obtain ⟨s3, g2, gz2, s4, hR⟩ := HF14.out v' w5 hown2 hgrow hat
      have HR57 := Lib.hid hR
      obtain ⟨a2, cap2, hv2⟩ := ownsRow_shape hown2
      subst hv2
      clear hown2 hgrow hat hR
      refine hK.out _ _ s3 (fun hSn => ?_)
      clear hK K
      refine takeQ_at (i := 9) (d := some 67) (v := ?_) rfl rfl (by kernel_rfl) (by kernel_rfl) (by kernel_rfl) (fun _ _ _ h => h) (Or.inl ⟨by rfl, ?hy⟩) s3 ?_
      case hy => (intro w hSw; (try dsimp only at hSw); go_simp; try with_reducible rfl)
      simp only [Act.put, List.setIfInBounds_toArray]
      refine takeQ_at (i := 10) (d := some 68) (v := ?_) rfl rfl (by kernel_rfl) (by kernel_rfl) (by kernel_rfl) (fun _ _ _ h => h) (Or.inl ⟨by rfl, ?hy⟩) s3 ?_
      case hy => (intro w hSw; (try dsimp only at hSw); go_simp; try with_reducible rfl)
      simp only [Act.put]
      refine wpAnyH_ready (rs := [11]) (by kernel_rfl) (by simp) ?_
      refine AllReadyH.cons rfl (fun K hK => ?_) AllReadyH.nil
      go_simp
      refine hK.out _ _ s4 (fun hSn => ?_)
      clear hK K
      refine wpAnyH_done (by kernel_rfl) ?_ _
      refine NoPanic.normal ?_
      rotate_left
      go_simp
      refine hK.out _ _ s0d (fun hSn => ?_)
      clear hK K
      refine wpAnyH_ready (rs := [7]) (by kernel_rfl) (by simp) ?_
      refine AllReadyH.cons rfl (fun K hK => ?_) AllReadyH.nil
      go_simp
      refine hK.out _ _ s2 (fun hSn => ?_)
      clear hK K
      refine wpAnyH_ready (rs := [8]) (by kernel_rfl) (by simp) ?_
      refine AllReadyH.cons rfl (fun K hK => ?_) AllReadyH.nil
      refine step_append_own rfl _ _ 30 rfl 0 3 i0 (.int .i64 0) 1 8 Tryz.underlying30 hi0 hz0 hz1 hz2 rfl (by decide) (.slice ax n9 capx) n9 (q9.map fun x : Int => Value.int .i64 x) (by simp [Act.eval]) HOWN.out ⟨wd.heap.size, 0, none⟩ 1 1 [.int .i64 u.key] (by simp [Act.eval]) rfl (new_int _ _ _) (by simp [Value.oneCell']) (by unfold maxLen; omega) (by omega) (Nat.zero_le _) ?_
      intro v' w5 hown2 hgrow hat
      obtain ⟨s3, g2, gz2, s4, hR⟩ := HF14.out v' w5 hown2 hgrow hat
      have HR57 := Lib.hid hR
      obtain ⟨a2, cap2, hv2⟩ := ownsRow_shape hown2
      subst hv2
      clear hown2 hgrow hat hR
      refine hK.out _ _ s3 (fun hSn => ?_)
      clear hK K
      refine takeQ_at (i := 9) (d := some 67) (v := ?_) rfl rfl (by kernel_rfl) (by kernel_rfl) (by kernel_rfl) (fun _ _ _ h => h) (Or.inl ⟨by rfl, ?hy⟩) s3 ?_
      case hy => (intro w hSw; (try dsimp only at hSw); go_simp; try with_reducible rfl)
      simp only [Act.put, List.setIfInBounds_toArray]
      refine takeQ_at (i := 10) (d := some 68) (v := ?_) rfl rfl (by kernel_rfl) (by kernel_rfl) (by kernel_rfl) (fun _ _ _ h => h) (Or.inl ⟨by rfl, ?hy⟩) s3 ?_
      case hy => (intro w hSw; (try dsimp only at hSw); go_simp; try with_reducible rfl)
      simp only [Act.put]
      refine wpAnyH_ready (rs := [11]) (by kernel_rfl) (by simp) ?_
      refine AllReadyH.cons rfl (fun K hK => ?_) AllReadyH.nil
      go_simp
      refine hK.out _ _ s4 (fun hSn => ?_)
      clear hK K
      refine wpAnyH_done (by kernel_rfl) ?_ _
      refine NoPanic.normal ?_
      all_goals
        have lTd := HT6D.out.lt (show 0 < 5 by omega)
        have hbd := HL.out.bd
        have CP := HR57.out.act (B := B) (HA.out.keep fun k hk => ?gA) ?gB ?gW (by omega) HLA.out hAl HLE.out
        case gA =>
          have z : ¬ rqX r d g gi rr h ev av k := fun y => by have := HB.out k y; omega
          have e1 := HB12.out.size
          have e2 := HR4.out.ex.size
          exact (HB46D.out.block k (by omega)).trans ((HR4.out.ex.block k (by omega) z).trans (HB12.out.block k (by omega)))
        case gB => exact fun k hk => (HR4.out.fx k hk).elim (HB.out k) (fun y => by have := HB12.out.size; omega)
        case gW =>
          have e1 := HB12.out.size
          have e2 := HR4.out.ex.size
          have e3 := HB46D.out.size
          omega
        clear s0 s0d s2 s3 s4 y0 y0a g2 gz2 hSc hSn
        go_wp2_with fail
        refine CP.mono ?_
        rintro e w8 ⟨rfl, gi2, rr2, h2, ev2, av2, t2, hR8⟩
        clear CP
        have hRR := HR57.out.trans hR8
        have nTw : ¬ rqX r d g gi1 rr1 h1 ev1 av1 w4.heap.size := fun y => Nat.lt_irrefl _ (HP4.out.lt _ y)
        have nrX : ∀ k, w.heap.size ≤ k → k < w.heap.size + 2 → ¬ rqX r d g gi1 rr1 h1 ev1 av1 k := fun k g1 g2 y => by
          rcases HR4.out.fx k y with z | z
          · have := HRX.out k z; omega
          · omega
        have hmd := Blk.of HM1.out.mc HB46D.out (by omega)
        have hm8 := hmd.same (hRR.ex.block _ (hmd.lt (by omega)) HM1.out.nx)
        have hT8 := HT6D.out.same (hRR.ex.block _ lTd nTw)
        have hboxd : Blk wd w.heap.size 4 _ := HC6.out.box.same (w' := wd) (by rw [← HWD.out]; rfl)
        have hresd : Blk wd (w.heap.size + 1) 5 zT := HC6.out.res.same (w' := wd) (by rw [← HWD.out]; rfl)
        have hbox8 := hboxd.same (hRR.ex.block _ (hboxd.lt (by omega)) (nrX _ (by omega) (by omega)))
        have hres8 := hresd.same (hRR.ex.block _ (hresd.lt (by omega)) (nrX _ (by omega) (by omega)))
        have q1c8 : w8.cell? ⟨w4.heap.size, 1, none⟩ = some (.int .i64 u.key) := hT8.c 1 (by omega)
        have b2c8 : w8.cell? ⟨w.heap.size, 2, none⟩ = some (.int .i64 c.key) := hbox8.c 2 (by omega)
        have C1 := rone_any (w := w8) (r := r) (same := same) (hR8.rq.hd.c 3 (by omega)) u.key c.key
        have HRR := Lib.hid hRR
        have HM8 := Lib.hid hm8
        have HBX8 := Lib.hid hbox8
        have HRS8 := Lib.hid hres8
        clear hR8 hRR hmd hm8 hT8 hboxd hresd hbox8 hres8 nTw nrX hbd lTd
        go_wp2_with fail
        refine C1.mono ?_
        rintro e w9 ⟨rfl, hb9⟩
        have C2 := tell_yes (Blk.of HM8.out hb9 (by omega)) HK1.out (oneQ same u.key c.key)
        have HB9 := Lib.hid hb9
        clear C1 hb9
        go_wp2_with fail
        refine C2.mono ?_
        rintro e w10 ⟨rfl, hmc8, hx8⟩
        rw [HUY.out] at hmc8
        obtain ⟨k2, m2, hLn⟩ := HTOLD.out _ _ _ _ _ _ _ _ _ _ (((RqR.refl HP4.out).below HB46D.out).trans (HRR.out.below HB9.out)) rfl hmc8 hx8
        have hC8 : Cb w10 w.heap.size c zT := by
          have nx := HL.out.nx
          have hbox9 := Blk.of HBX8.out HB9.out (by omega)
          have hres9 := Blk.of HRS8.out HB9.out (by omega)
          exact ⟨hbox9.same (hx8.block _ (hbox9.lt (by omega)) (fun e => by omega)), hres9.same (hx8.block _ (hres9.lt (by omega)) (fun e => by omega))⟩
        have HLN := Lib.hid hLn
        have HC8 := Lib.hid hC8
        clear C2 hmc8 hx8 hLn hC8
        go_wp2_with fail
        go_roundw
        case rel => exact ⟨nn + 1, by omega, by first | rfl | go_num, _, gi2, rr2, h2, ev2, av2, t2, _, _, k2, _, m2, HLN.out, HC8.out, ⟨by rw [HQE.out, HUY.out], by have := HQL.out; simp; omega⟩⟩
        case measure => simp [intOf]; omega
end Go.Proofs.YtbpflmdefpjcaaaGreat
