/-
  The program's call within an act.
  Calls of a nil dictionary and of a nil machine.
  Clear.
  The reference's New, Get, Set.
  The reference's table in memory; lay.
  What is left as it was; the counts; index.
  The reference's New and all.
-/
import Derived.Test.YtbpflmdefpjcaaaGreatGxag
import Derived.Test.YtbpflmdefpjcaaaGreatGxaf
import Derived.Laws.EntriesVeiled
import Derived.Test.YtbpflmdefpjcaaaGreatGxad
import Derived.Deep.CutRange
import Derived.Test.YtbpflmdefpjcaaaGreatGxaa
import Derived.Maps.AppendAt
import Derived.Deep.LoopGhost
namespace Go.Proofs.YtbpflmdefpjcaaaGreat
open Go.RowKit Go.WideShapes

set_option maxRecDepth 100000 in
set_option maxHeartbeats 16000000 in
theorem rcallI_any {w : World} {r d g gi rr h : Nat} {ev av tv : Value} {t : Tb} {most v : Nat} {q0 : List Int} {same : Int} {c : Cq} {a : Nat} {L' : List Pq} {v' : Nat} {q q' : List Int} {k : Nat} (p : Rq w r d g gi rr h ev av tv t most v q0 same true) (hF : FdQ most same [] c (pqs t.es) v q 0 0 a L' v' q' k) (hk : k ≤ 8000) (hJ : v + potQ (q.length : Int) [] ≤ 1000) (hg : 1 ≤ c.goal ∧ c.goal ≤ 4) :
    Calls Tryz.prog 7 #[.pointer (some ⟨r, 0, none⟩), .agg #[.int .i64 (c.goal : Int), .int .i64 c.hash, .int .i64 c.key, .int .i64 c.value]] w fun e w' => RcQ w r d g gi rr h ev av tv t most v same true (endQ most c (L', v') a) q0 e w' := by
  obtain ⟨w1, hw1⟩ : ∃ V, w.alloc (.cells #[.int .i64 (c.goal : Int), .int .i64 c.hash, .int .i64 c.key, .int .i64 c.value] 38) = V := ⟨_, rfl⟩
  obtain ⟨w2, hw2⟩ : ∃ V, w1.alloc (.cells #[.int .i64 0, .int .i64 0, .bool false, .int .i64 0, .int .i64 0] 40) = V := ⟨_, rfl⟩
  have hb1 : Below w.heap.size w w1 := by rw [← hw1]; exact (Below.refl _ w).alloc (Nat.le_refl _) _
  have hb2 : Below w1.heap.size w1 w2 := by rw [← hw2]; exact (Below.refl _ w1).alloc (Nat.le_refl _) _
  have hs1 : w1.heap.size = w.heap.size + 1 := by rw [← hw1]; simp
  have hs2 : w2.drew.heap.size = w.heap.size + 2 := by
    show w2.heap.size = _
    rw [← hw2]
    simp [hs1]
  have hb12 : Below w.heap.size w w2.drew := (hb1.trans (hb2.mono hb1.size)).drew
  have hC2 : Cb w2.drew w.heap.size c zT := ⟨Blk.same (w := w2) (Blk.of (by rw [← hw1]; exact cl_new w c) hb2 (by omega)) rfl, Blk.same (w := w2) (by rw [← hw2, ← hs1]; exact Blk.new w1 _ _) rfl⟩
  have p2 := p.below hb12
  have C1 := begin_yes d c.goal hg.1 hg.2 c.hash c.key c.value w2.drew
  have s0 : w2.drew.cell? ⟨r, 0, none⟩ = some (.pointer (some ⟨d, 0, none⟩)) ∧ (w2.drew.cell? ⟨w.heap.size, 0, none⟩ = some (.int .i64 (c.goal : Int)) ∧ w2.drew.cell? ⟨w.heap.size, 1, none⟩ = some (.int .i64 c.hash)) ∧ w2.drew.cell? ⟨w.heap.size, 2, none⟩ = some (.int .i64 c.key) ∧ w2.drew.cell? ⟨w.heap.size, 3, none⟩ = some (.int .i64 c.value) := ⟨p2.hd.c 0 (by omega), ⟨hC2.box.c 0 (by omega), hC2.box.c 1 (by omega)⟩, hC2.box.c 2 (by omega), hC2.box.c 3 (by omega)⟩
  have HS0 : Hid (∀ V, Below w2.drew.heap.size w2.drew V → V.cell? ⟨r, 0, none⟩ = some (.pointer (some ⟨d, 0, none⟩)) ∧ (V.cell? ⟨w.heap.size, 0, none⟩ = some (.int .i64 (c.goal : Int)) ∧ V.cell? ⟨w.heap.size, 1, none⟩ = some (.int .i64 c.hash)) ∧ V.cell? ⟨w.heap.size, 2, none⟩ = some (.int .i64 c.key) ∧ V.cell? ⟨w.heap.size, 3, none⟩ = some (.int .i64 c.value)) := fun V hb => ⟨(p2.below hb).hd.c 0 (by omega), ⟨(hC2.box.of hb (by omega)).c 0 (by omega), (hC2.box.of hb (by omega)).c 1 (by omega)⟩, (hC2.box.of hb (by omega)).c 2 (by omega), (hC2.box.of hb (by omega)).c 3 (by omega)⟩
  have HRX : Hid (∀ k, rqX r d g gi rr h ev av k → k < w.heap.size) := p.lt
  have HP2 := Lib.hid p2
  have HC2 := Lib.hid hC2
  have HB12 := Lib.hid hb12
  have HW1 := Lib.hid hw1
  have HW2 := Lib.hid hw2
  have HF := Lib.hid hF
  have HJ := Lib.hid hJ
  clear p p2 hC2 hb1 hb2 hb12 hw1 hw2 hF hJ
  go_enter Tryz.func7, Tryz.ntmps7
  go_upto_region 1 with fail
  rw [HW1.out, HW2.out]
  go_region_held3 (fun V => V.cell? ⟨r, 0, none⟩ = some (.pointer (some ⟨d, 0, none⟩)) ∧ (V.cell? ⟨w.heap.size, 0, none⟩ = some (.int .i64 (c.goal : Int)) ∧ V.cell? ⟨w.heap.size, 1, none⟩ = some (.int .i64 c.hash)) ∧ V.cell? ⟨w.heap.size, 2, none⟩ = some (.int .i64 c.key) ∧ V.cell? ⟨w.heap.size, 3, none⟩ = some (.int .i64 c.value))
    (first | with_reducible exact s0 | with_reducible exact s1 | fail)
    (first | (go_at_call 9; refine C1.mono ?_; rintro e w3 ⟨x, rfl, hxn, hmc, hb3⟩; have s1 := HS0.out w3 hb3; have HXN := Lib.hid hxn; have HMC := Lib.hid hmc; have HB3 := Lib.hid hb3; clear hxn hmc hb3) | fail)
  clear C1 s0 s1
  have hq := eqMa x
  have hnx : ¬ rqX r d g gi rr h ev av x := fun y => by have := HRX.out x y; have := HXN.out; omega
  have HL0 : Hid (Lp8 w2.drew r d g gi rr h ev av tv t most v same [] c a L' v' q' true 1000 x 0 w3 q0 gi rr h ev av t v q k (.pointer none) ⟨c.goal, c.hash, c.key, c.value, 0, 0, Tu.zero, 0, false⟩) :=
    ⟨(RqR.refl HP2.out).below HB3.out, ⟨HMC.out, rfl, rfl, rfl, rfl, hnx, fun k hk => (noneB hk).elim, by show (0 : Nat) ≤ _; omega, by show (0 : Nat) ≤ _; omega⟩, rfl, .inl ⟨0, 0, -1, HF.out, upto_zero _ _, .inl ⟨.inl rfl, rfl⟩⟩, HJ.out, Nat.le_refl _, HXN.out, fun k hk => (noneB hk).elim, by omega⟩
  have HC3 : Hid (Cb w3 w.heap.size c zT) := ⟨HC2.out.box.of HB3.out (by omega), HC2.out.res.of HB3.out (by omega)⟩
  go_wp2_with fail
  clear hq
  go_loopw [7] (fun iv wr => ∃ nn : Nat, nn ≤ 8001 ∧ iv = .int .i64 (nn : Int) ∧ ∃ (q9 : List Int) (gi1 rr1 h1 : Nat) (ev1 av1 : Value) (t1 : Tb) (v1 : Nat) (q1 : List Int) (k1 : Nat) (sv : Value) (m : Ma), Lp8 w2.drew r d g gi rr h ev av tv t most v same [] c a L' v' q' true 1000 x nn wr q9 gi1 rr1 h1 ev1 av1 t1 v1 q1 k1 sv m ∧ Cb wr w.heap.size c zT ∧ q9 = q0) (fun iv _ => 9000 - (intOf iv).toNat)
  case atStart => exact ⟨0, by omega, rfl, q0, gi, rr, h, ev, av, t, v, q, k, _, _, HL0.out, HC3.out, rfl⟩
  case round =>
    clear HL0 HC3
    obtain ⟨nn, hnn, rfl, q9, gi1, rr1, h1, ev1, av1, t1, v1, q1, k1, sv, m, hL, hC, hq9⟩ := hrel
    have t9 : (nn : Int) < 9000 := by omega
    have en : IntKind.i64.wrap ((nn : Int) + 1) = ((nn + 1 : Nat) : Int) := by rw [i64_small (by omega) (by omega)]; omega
    have hlk := hL.lk
    have hbd := hL.bd
    have hscL := hL.sc
    have CS := real_step hL.rq.rq hL.mm hL.hu hL.rdy (by omega) (by omega) hg
    have HL := Lib.hid hL
    have HC := Lib.hid hC
    clear hL hC
    go_upto_region 7 with fail
    go_wp2_with fail
    refine CS.mono ?_
    rintro e w4 ⟨u, rfl, hcase⟩
    clear CS
    obtain ⟨w5, hw5⟩ : ∃ V, w4.alloc (.cells #[.int .i64 u.kind, .int .i64 u.key, .bool u.found, .int .i64 u.value, .int .i64 u.entry] 40) = V := ⟨_, rfl⟩
    have hb5 : Below w4.heap.size w4 w5 := by rw [← hw5]; exact (Below.refl _ w4).alloc (Nat.le_refl _) _
    have hT5 : Blk w5 w4.heap.size 5 (fun j => #[Value.int .i64 u.kind, .int .i64 u.key, .bool u.found, .int .i64 u.value, .int .i64 u.entry].getD j .nilFunc) := by rw [← hw5]; exact Blk.new w4 _ _
    have hs5 : w5.heap.size = w4.heap.size + 1 := by rw [← hw5]; simp
    have HW5 := Lib.hid hw5
    unfold tuV
    rcases hcase with ⟨hk1, hend, hqq, gi2, rr2, h2, ev2, t2, hp, hpq, hsm, hvl, hfx, hex, s, j, m', hmc, hvi⟩ | ⟨n, i, sc, s, j, f, m1, hu, hii, hhi, hkey, hFd, hp, hex, hm1, hmu, hmv, hms, hms1, hma, hSw, hnl, hll, hlp, hUp, hsn⟩
    · -- it has ended
      have R4 := HL.out.rq.step hp hpq hsm hvl hfx hex HL.out.nx HL.out.ns
      have hs4 := R4.ex.size
      have HLE4 : Hid (w2.drew.heap.size ≤ w4.heap.size) := hs4
      have hC4 : Cb w4 w.heap.size c zT := by
        have nb : ∀ k, w.heap.size ≤ k → k < w.heap.size + 2 → w4.heap[k]? = wr.heap[k]? := fun k g1 g2 => hex.block k (by have := HL.out.rq.ex.size; omega) (fun y => by
          rcases y with y | y | y
          · rcases HL.out.rq.fx k y with z | z
            · have := HRX.out k z; omega
            · omega
          · have := HL.out.nx; omega
          · have := HL.out.ns k y; omega)
        exact ⟨HC.out.box.same (nb _ (by omega) (by omega)), HC.out.res.same (nb _ (by omega) (by omega))⟩
      obtain ⟨tp, tu, uu, LL, ii, told, hsk⟩ := hvi
      have CN := scan_any (w := w5.drew) (Blk.of hmc hb5.drew (by omega)) (Blk.c (Blk.of hsk hb5.drew (by omega)) 7 (by omega))
      have p5 := (R4.rq.below hb5).same (w' := w5.drew) fun _ _ => rfl
      have CG := psight_any p5.dc
      have hP : 2 ^ t2.L ≤ 1048576 := Nat.le_trans (Nat.pow_le_pow_right (n := 2) (by decide) p5.dc.ok.sz.2) (by decide)
      have HK : Hid (∀ V, Below w5.drew.heap.size w5.drew V → V.cell? ⟨r, 0, none⟩ = some (.pointer (some ⟨d, 0, none⟩)) ∧ V.cell? ⟨w4.heap.size, 0, none⟩ = some (.int .i64 u.kind)) := fun V hb => ⟨(p5.below hb).hd.c 0 (by omega), ((Blk.same (w' := w5.drew) hT5 rfl).of hb (by omega)).c 0 (by omega)⟩
      have s0 := HK.out w5.drew (Below.refl _ _)
      have hkb : (u.kind == 1) = false := by rw [beq_eq_false_iff_ne]; exact hk1
      have hkn : (u.kind != 1) = true := by simp [hk1]
      have R5 := R4.below hb5.drew
      have hC5 : Cb w5.drew w.heap.size c zT := ⟨hC4.box.of hb5.drew (by omega), hC4.res.of hb5.drew (by omega)⟩
      have hT5d : Blk w5.drew w4.heap.size 5 (fun j => #[Value.int .i64 u.kind, .int .i64 u.key, .bool u.found, .int .i64 u.value, .int .i64 u.entry].getD j .nilFunc) := Blk.same (w' := w5.drew) hT5 rfl
      have hsz5 : w5.drew.heap.size = w4.heap.size + 1 := hs5
      have HR5 := Lib.hid R5
      have HC5 := Lib.hid hC5
      have HT5 := Lib.hid hT5d
      have HEND := Lib.hid hend
      have HQQ := Lib.hid hqq
      have HLT4 : Hid (∀ k, rqX r d g gi2 rr2 h2 ev2 av1 k → k < w4.heap.size) := hp.lt
      clear hp hpq hsm hvl hfx hex hmc hsk R4 hC4 p5 hb5 hT5 R5 hC5 hT5d hw5 hend hqq
      unfold sgV at CG
      generalize 2 ^ t2.L = NL at hP CG
      generalize hVN : ((j : Nat) : Int) = vn at CN
      have n13 : IntKind.i64.wrap ((NL : Int) + 13) = (NL : Int) + 13 := i64_small (by omega) (by omega)
      go_upto_region 8 with fail
      rw [HW5.out]
      rcases Decidable.em ((NL : Int) + 13 < vn) with hbig | hbig
      case' inl =>
        have hdc : decide ((NL : Int) + 13 < vn) = true := decide_eq_true hbig
        clear hbig
        refine wp_region_noPanic ?_
        refine wp_region_held_drew (S := fun V => V.cell? ⟨r, 0, none⟩ = some (.pointer (some ⟨d, 0, none⟩)) ∧ V.cell? ⟨w4.heap.size, 0, none⟩ = some (.int .i64 u.kind)) (by kernel_rfl) s0 (fun hSc => ?_)
        refine takeQ_at (i := 0) (d := some 31) (v := ?_) rfl rfl (by kernel_rfl) (by kernel_rfl) (by kernel_rfl) (fun _ _ _ h => h) (Or.inl ⟨by rfl, ?hy⟩) hSc ?_
        case hy => (intro w hSw; (try dsimp only at hSw); go_simp; try with_reducible rfl)
        simp only [Act.put, List.setIfInBounds_toArray, List.set_cons_zero, List.set_cons_succ]
        refine takeQ_at (i := 2) (d := some 33) (v := ?_) rfl rfl (by kernel_rfl) (by kernel_rfl) (by kernel_rfl) (fun _ _ _ h => h) (Or.inl ⟨by rfl, ?hy⟩) hSc ?_
        case hy => (intro w hSw; (try dsimp only at hSw); go_simp; try with_reducible rfl)
        simp only [Act.put, List.setIfInBounds_toArray, List.set_cons_zero, List.set_cons_succ]
        refine takeQ_at (i := 3) (d := some 34) (v := ?_) rfl rfl (by kernel_rfl) (by kernel_rfl) (by kernel_rfl) (fun _ _ _ h => h) (Or.inl ⟨by rfl, ?hy⟩) hSc ?_
        case hy => (intro w hSw; (try dsimp only at hSw); go_simp; try with_reducible rfl)
        simp only [Act.put, List.setIfInBounds_toArray, List.set_cons_zero, List.set_cons_succ]
        refine takeQ_at (i := 4) (d := some 35) (v := ?_) rfl rfl (by kernel_rfl) (by kernel_rfl) (by kernel_rfl) (fun _ _ _ h => h) (Or.inl ⟨by rfl, ?hy⟩) hSc ?_
        case hy => (intro w hSw; (try dsimp only at hSw); go_simp; try with_reducible rfl)
        simp only [Act.put, List.setIfInBounds_toArray, List.set_cons_zero, List.set_cons_succ]
        refine takeQ_at (i := 5) (d := some 36) (v := ?_) rfl rfl (by kernel_rfl) (by kernel_rfl) (by kernel_rfl) (fun _ _ _ h => h) (Or.inl ⟨by rfl, ?hy⟩) hSc ?_
        case hy => (intro w hSw; (try dsimp only at hSw); go_simp; try with_reducible rfl)
        simp only [Act.put, List.setIfInBounds_toArray, List.set_cons_zero, List.set_cons_succ]
        refine wpAnyH_ready (rs := [1]) (by kernel_rfl) (by simp) ?_
        refine AllReadyH.cons rfl (fun K hK => ?_) AllReadyH.nil
        go_simp
        refine CN.mono ?_
        rintro e v9 ⟨rfl, rfl⟩
        refine hK.out _ _ s0 (fun hSn => ?_)
        clear hK K
        refine wpAnyH_ready (rs := [6]) (by kernel_rfl) (by simp) ?_
        refine AllReadyH.cons rfl (fun K hK => ?_) AllReadyH.nil
        go_simp
        refine CG.mono ?_
        rintro e w6 ⟨hc6, ev6, rfl, _, hb6⟩
        have s6 := HK.out w6 hb6
        have HB6 := Lib.hid hb6
        have hfd := sgq_field2 (.int .i64 (t2.L : Int)) (.int .i64 (wd t2.L : Int)) ev6 (.int .i64 (t2.live : Int)) (.int .i64 (t2.births : Int)) (.int .i64 (t2.made : Int)) (some ⟨hc6, 0, none⟩) NL NL
        clear hb6
        refine hK.out _ _ s6 (fun hSn2 => ?_)
        clear hK K
        refine takeQ_at (i := 7) (d := some 38) (v := ?_) rfl rfl (by kernel_rfl) (by kernel_rfl) (by kernel_rfl) (fun _ _ _ h => h) (Or.inl ⟨by rfl, ?hy⟩) s6 ?_
        case hy => (intro w hSw; (try dsimp only at hSw); go_simp; try with_reducible rfl)
        simp only [Act.put, List.setIfInBounds_toArray, List.set_cons_zero, List.set_cons_succ]
        refine takeQ_at (i := 8) (d := some 39) (v := ?_) rfl rfl (by kernel_rfl) (by kernel_rfl) (by kernel_rfl) (fun _ _ _ h => h) (Or.inl ⟨by rfl, ?hy⟩) s6 ?_
        case hy => (intro w hSw; (try dsimp only at hSw); go_simp; try with_reducible rfl)
        simp only [Act.put, List.setIfInBounds_toArray, List.set_cons_zero, List.set_cons_succ]
        refine takeQ_at (i := 9) (d := some 40) (v := ?_) rfl rfl (by kernel_rfl) (by kernel_rfl) (by kernel_rfl) (fun _ _ _ h => h) (Or.inl ⟨by rfl, ?hy⟩) s6 ?_
        case hy => (intro w hSw; (try dsimp only at hSw); go_simp; try with_reducible rfl)
        simp only [Act.put, List.setIfInBounds_toArray, List.set_cons_zero, List.set_cons_succ]
        refine takeQ_at (i := 10) (d := some 41) (v := .bool true) rfl rfl (by kernel_rfl) (by kernel_rfl) (by kernel_rfl) (fun _ _ _ h => h) (Or.inl ⟨by rfl, ?hy⟩) s6 ?_
        case hy => (intro w hSw; (try dsimp only at hSw); go_simp; try with_reducible rfl)
        simp only [Act.put, List.setIfInBounds_toArray, List.set_cons_zero, List.set_cons_succ]
        refine takeQ_at (i := 11) (d := some 42) (v := ?_) rfl rfl (by kernel_rfl) (by kernel_rfl) (by kernel_rfl) (fun _ _ _ h => h) (Or.inl ⟨by rfl, ?hy⟩) s6 ?_
        case hy => (intro w hSw; (try dsimp only at hSw); go_simp; try with_reducible rfl)
        simp only [Act.put, List.setIfInBounds_toArray, List.set_cons_zero, List.set_cons_succ]
        refine takeQ_at (i := 12) (d := some 43) (v := ?_) rfl rfl (by kernel_rfl) (by kernel_rfl) (by kernel_rfl) (fun _ _ _ h => h) (Or.inl ⟨by rfl, ?hy⟩) s6 ?_
        case hy => (intro w hSw; (try dsimp only at hSw); go_simp; try with_reducible rfl)
        simp only [Act.put, List.setIfInBounds_toArray, List.set_cons_zero, List.set_cons_succ]
        refine takeQ_at (i := 13) (d := some 44) (v := ?_) rfl rfl (by kernel_rfl) (by kernel_rfl) (by kernel_rfl) (fun _ _ _ h => h) (Or.inl ⟨by rfl, ?hy⟩) s6 ?_
        case hy => (intro w hSw; (try dsimp only at hSw); go_simp; try with_reducible rfl)
        simp only [Act.put, List.setIfInBounds_toArray, List.set_cons_zero, List.set_cons_succ]
        refine takeQ_at (i := 14) (d := some 45) (v := ?_) rfl rfl (by kernel_rfl) (by kernel_rfl) (by kernel_rfl) (fun _ _ _ h => h) (Or.inl ⟨by rfl, ?hy⟩) s6 ?_
        case hy => (intro w hSw; (try dsimp only at hSw); go_simp; try with_reducible rfl)
        simp only [Act.put, List.setIfInBounds_toArray, List.set_cons_zero, List.set_cons_succ]
        refine takeQ_at (i := 15) (d := some 46) (v := ?_) rfl rfl (by kernel_rfl) (by kernel_rfl) (by kernel_rfl) (fun _ _ _ h => h) (Or.inl ⟨by rfl, ?hy⟩) s6 ?_
        case hy => (intro w hSw; (try dsimp only at hSw); go_simp; try with_reducible rfl)
        simp only [Act.put]
        refine wpAnyH_done (by kernel_rfl) ?_ _
        refine NoPanic.normal ?_
      case' inr =>
        have hdc : decide ((NL : Int) + 13 < vn) = false := decide_eq_false hbig
        clear hbig
        refine wp_region_noPanic ?_
        refine wp_region_held_drew (S := fun V => V.cell? ⟨r, 0, none⟩ = some (.pointer (some ⟨d, 0, none⟩)) ∧ V.cell? ⟨w4.heap.size, 0, none⟩ = some (.int .i64 u.kind)) (by kernel_rfl) s0 (fun hSc => ?_)
        refine takeQ_at (i := 0) (d := some 31) (v := ?_) rfl rfl (by kernel_rfl) (by kernel_rfl) (by kernel_rfl) (fun _ _ _ h => h) (Or.inl ⟨by rfl, ?hy⟩) hSc ?_
        case hy => (intro w hSw; (try dsimp only at hSw); go_simp; try with_reducible rfl)
        simp only [Act.put, List.setIfInBounds_toArray, List.set_cons_zero, List.set_cons_succ]
        refine takeQ_at (i := 2) (d := some 33) (v := ?_) rfl rfl (by kernel_rfl) (by kernel_rfl) (by kernel_rfl) (fun _ _ _ h => h) (Or.inl ⟨by rfl, ?hy⟩) hSc ?_
        case hy => (intro w hSw; (try dsimp only at hSw); go_simp; try with_reducible rfl)
        simp only [Act.put, List.setIfInBounds_toArray, List.set_cons_zero, List.set_cons_succ]
        refine takeQ_at (i := 3) (d := some 34) (v := ?_) rfl rfl (by kernel_rfl) (by kernel_rfl) (by kernel_rfl) (fun _ _ _ h => h) (Or.inl ⟨by rfl, ?hy⟩) hSc ?_
        case hy => (intro w hSw; (try dsimp only at hSw); go_simp; try with_reducible rfl)
        simp only [Act.put, List.setIfInBounds_toArray, List.set_cons_zero, List.set_cons_succ]
        refine takeQ_at (i := 4) (d := some 35) (v := ?_) rfl rfl (by kernel_rfl) (by kernel_rfl) (by kernel_rfl) (fun _ _ _ h => h) (Or.inl ⟨by rfl, ?hy⟩) hSc ?_
        case hy => (intro w hSw; (try dsimp only at hSw); go_simp; try with_reducible rfl)
        simp only [Act.put, List.setIfInBounds_toArray, List.set_cons_zero, List.set_cons_succ]
        refine takeQ_at (i := 5) (d := some 36) (v := ?_) rfl rfl (by kernel_rfl) (by kernel_rfl) (by kernel_rfl) (fun _ _ _ h => h) (Or.inl ⟨by rfl, ?hy⟩) hSc ?_
        case hy => (intro w hSw; (try dsimp only at hSw); go_simp; try with_reducible rfl)
        simp only [Act.put, List.setIfInBounds_toArray, List.set_cons_zero, List.set_cons_succ]
        refine wpAnyH_ready (rs := [1]) (by kernel_rfl) (by simp) ?_
        refine AllReadyH.cons rfl (fun K hK => ?_) AllReadyH.nil
        go_simp
        refine CN.mono ?_
        rintro e v9 ⟨rfl, rfl⟩
        refine hK.out _ _ s0 (fun hSn => ?_)
        clear hK K
        refine wpAnyH_ready (rs := [6]) (by kernel_rfl) (by simp) ?_
        refine AllReadyH.cons rfl (fun K hK => ?_) AllReadyH.nil
        go_simp
        refine CG.mono ?_
        rintro e w6 ⟨hc6, ev6, rfl, _, hb6⟩
        have s6 := HK.out w6 hb6
        have HB6 := Lib.hid hb6
        have hfd := sgq_field2 (.int .i64 (t2.L : Int)) (.int .i64 (wd t2.L : Int)) ev6 (.int .i64 (t2.live : Int)) (.int .i64 (t2.births : Int)) (.int .i64 (t2.made : Int)) (some ⟨hc6, 0, none⟩) NL NL
        clear hb6
        refine hK.out _ _ s6 (fun hSn2 => ?_)
        clear hK K
        refine takeQ_at (i := 7) (d := some 38) (v := ?_) rfl rfl (by kernel_rfl) (by kernel_rfl) (by kernel_rfl) (fun _ _ _ h => h) (Or.inl ⟨by rfl, ?hy⟩) s6 ?_
        case hy => (intro w hSw; (try dsimp only at hSw); go_simp; try with_reducible rfl)
        simp only [Act.put, List.setIfInBounds_toArray, List.set_cons_zero, List.set_cons_succ]
        refine takeQ_at (i := 8) (d := some 39) (v := ?_) rfl rfl (by kernel_rfl) (by kernel_rfl) (by kernel_rfl) (fun _ _ _ h => h) (Or.inl ⟨by rfl, ?hy⟩) s6 ?_
        case hy => (intro w hSw; (try dsimp only at hSw); go_simp; try with_reducible rfl)
        simp only [Act.put, List.setIfInBounds_toArray, List.set_cons_zero, List.set_cons_succ]
        refine takeQ_at (i := 9) (d := some 40) (v := ?_) rfl rfl (by kernel_rfl) (by kernel_rfl) (by kernel_rfl) (fun _ _ _ h => h) (Or.inl ⟨by rfl, ?hy⟩) s6 ?_
        case hy => (intro w hSw; (try dsimp only at hSw); go_simp; try with_reducible rfl)
        simp only [Act.put, List.setIfInBounds_toArray, List.set_cons_zero, List.set_cons_succ]
        refine takeQ_at (i := 10) (d := some 41) (v := .bool false) rfl rfl (by kernel_rfl) (by kernel_rfl) (by kernel_rfl) (fun _ _ _ h => h) (Or.inl ⟨by rfl, ?hy⟩) s6 ?_
        case hy => (intro w hSw; (try dsimp only at hSw); go_simp; try with_reducible rfl)
        simp only [Act.put, List.setIfInBounds_toArray, List.set_cons_zero, List.set_cons_succ]
        refine takeQ_at (i := 11) (d := some 42) (v := ?_) rfl rfl (by kernel_rfl) (by kernel_rfl) (by kernel_rfl) (fun _ _ _ h => h) (Or.inl ⟨by rfl, ?hy⟩) s6 ?_
        case hy => (intro w hSw; (try dsimp only at hSw); go_simp; try with_reducible rfl)
        simp only [Act.put, List.setIfInBounds_toArray, List.set_cons_zero, List.set_cons_succ]
        refine takeQ_at (i := 12) (d := some 43) (v := undef) rfl rfl (by kernel_rfl) (by kernel_rfl) (by kernel_rfl) (fun _ _ _ h => h) (Or.inr ⟨by rfl, rfl⟩) s6 ?_
        simp only [Act.put, List.setIfInBounds_toArray, List.set_cons_zero, List.set_cons_succ]
        refine takeQ_at (i := 13) (d := some 44) (v := undef) rfl rfl (by kernel_rfl) (by kernel_rfl) (by kernel_rfl) (fun _ _ _ h => h) (Or.inr ⟨by rfl, rfl⟩) s6 ?_
        simp only [Act.put, List.setIfInBounds_toArray, List.set_cons_zero, List.set_cons_succ]
        refine takeQ_at (i := 14) (d := some 45) (v := undef) rfl rfl (by kernel_rfl) (by kernel_rfl) (by kernel_rfl) (fun _ _ _ h => h) (Or.inr ⟨by rfl, rfl⟩) s6 ?_
        simp only [Act.put, List.setIfInBounds_toArray, List.set_cons_zero, List.set_cons_succ]
        refine takeQ_at (i := 15) (d := some 46) (v := ?_) rfl rfl (by kernel_rfl) (by kernel_rfl) (by kernel_rfl) (fun _ _ _ h => h) (Or.inl ⟨by rfl, ?hy⟩) s6 ?_
        case hy => (intro w hSw; (try dsimp only at hSw); go_simp; try with_reducible rfl)
        simp only [Act.put]
        refine wpAnyH_done (by kernel_rfl) ?_ _
        refine NoPanic.normal ?_
      all_goals
        clear s0 s6 hfd
        have R6 := HR5.out.below HB6.out
        have hT6 := HT5.out.of HB6.out (by omega)
        have hC6 : Cb w6 w.heap.size c zT := ⟨HC5.out.box.of HB6.out (by omega), HC5.out.res.of HB6.out (by omega)⟩
        have nrX : ∀ k, w.heap.size ≤ k → k < w.heap.size + 2 → ¬ rqX r d g gi2 rr2 h2 ev2 av1 k := fun k g1 g2 y => by
          rcases R6.fx k y with z | z
          · have := HRX.out k z; omega
          · omega
        have ntX : ¬ rqX r d g gi2 rr2 h2 ev2 av1 w4.heap.size := fun y => Nat.lt_irrefl _ (HLT4.out _ y)
        obtain ⟨w7, hw7⟩ : ∃ V, w6.setCell ⟨w4.heap.size, 4, none⟩ (.int .i64 0) = V := ⟨_, rfl⟩
        have hT7 : Blk w7 w4.heap.size 5 (fun y => if y = 4 then .int .i64 0 else #[Value.int .i64 u.kind, .int .i64 u.key, .bool u.found, .int .i64 u.value, .int .i64 u.entry].getD y .nilFunc) := by rw [← hw7]; exact hT6.put 4 _
        have hx7 : Ex (fun k => k = w4.heap.size) w6 w7 := by rw [← hw7]; exact (Ex.refl (fun k => k = w4.heap.size) w6).setCell (p := ⟨w4.heap.size, 4, none⟩) (fun _ => rfl) _
        have hres7 : Blk w7 (w.heap.size + 1) 5 zT := hC6.res.same (hx7.block _ (hC6.res.lt (by omega)) (fun e => by omega))
        obtain ⟨w9, hw9⟩ : ∃ V, put5 w7 (w.heap.size + 1) (.int .i64 u.kind) (.int .i64 u.key) (.bool u.found) (.int .i64 u.value) (.int .i64 0) = V := ⟨_, rfl⟩
        have hR9 : Blk w9 (w.heap.size + 1) 5 (fun j => [Value.int .i64 u.kind, .int .i64 u.key, .bool u.found, .int .i64 u.value, .int .i64 0].getD j .nilFunc) := by rw [← hw9]; exact put5_blk hres7 _ _ _ _ _
        have hx9 : Ex (fun k => k = w.heap.size + 1) w7 w9 := by rw [← hw9]; exact put5_ex _ _ _ _ _ _ _
        have HFIN := Lib.hid ((((R6.old HB12.out).mod hx7 (fun k hk => by
          have hk' : k = w4.heap.size := hk
          subst hk'
          exact ⟨by have := R6.ex.size; have := HL.out.rq.ex.size; have := HLE4.out; omega, ntX⟩)).mod (Y := fun k => k = w.heap.size + 1) hx9 (fun k hk => by
          have hk' : k = w.heap.size + 1 := hk
          subst hk'
          exact ⟨by omega, nrX _ (by omega) (by omega)⟩)))
        have q0c : w6.cell? ⟨w4.heap.size, 0, none⟩ = some (.int .i64 u.kind) := hT6.c 0 (by omega)
        have q4c : w6.cell? ⟨w4.heap.size, 4, none⟩ = some (.int .i64 u.entry) := hT6.c 4 (by omega)
        have q4z : w6.frozen? ⟨w4.heap.size, 4, none⟩ = false := hT6.z 4
        have f0 : w7.cell? ⟨w4.heap.size, 0, none⟩ = some (.int .i64 u.kind) := hT7.c 0 (by omega)
        have f1 : w7.cell? ⟨w4.heap.size, 1, none⟩ = some (.int .i64 u.key) := hT7.c 1 (by omega)
        have f2 : w7.cell? ⟨w4.heap.size, 2, none⟩ = some (.bool u.found) := hT7.c 2 (by omega)
        have f3 : w7.cell? ⟨w4.heap.size, 3, none⟩ = some (.int .i64 u.value) := hT7.c 3 (by omega)
        have f4 : w7.cell? ⟨w4.heap.size, 4, none⟩ = some (.int .i64 0) := hT7.c 4 (by omega)
        have z0 : w7.frozen? ⟨w.heap.size + 1, 0, none⟩ = false := hres7.z 0
        have z1 : w7.frozen? ⟨w.heap.size + 1, 1, none⟩ = false := hres7.z 1
        have z2 : w7.frozen? ⟨w.heap.size + 1, 2, none⟩ = false := hres7.z 2
        have z3 : w7.frozen? ⟨w.heap.size + 1, 3, none⟩ = false := hres7.z 3
        have z4 : w7.frozen? ⟨w.heap.size + 1, 4, none⟩ = false := hres7.z 4
        have zc0 : w7.cell? ⟨w.heap.size + 1, 0, none⟩ = some (.int .i64 0) := hres7.c 0 (by omega)
        have zc1 : w7.cell? ⟨w.heap.size + 1, 1, none⟩ = some (.int .i64 0) := hres7.c 1 (by omega)
        have zc2 : w7.cell? ⟨w.heap.size + 1, 2, none⟩ = some (.bool false) := hres7.c 2 (by omega)
        have zc3 : w7.cell? ⟨w.heap.size + 1, 3, none⟩ = some (.int .i64 0) := hres7.c 3 (by omega)
        have zc4 : w7.cell? ⟨w.heap.size + 1, 4, none⟩ = some (.int .i64 0) := hres7.c 4 (by omega)
        have o0 : w9.cell? ⟨w.heap.size + 1, 0, none⟩ = some (.int .i64 u.kind) := hR9.c 0 (by omega)
        have o1 : w9.cell? ⟨w.heap.size + 1, 1, none⟩ = some (.int .i64 u.key) := hR9.c 1 (by omega)
        have o2 : w9.cell? ⟨w.heap.size + 1, 2, none⟩ = some (.bool u.found) := hR9.c 2 (by omega)
        have o3 : w9.cell? ⟨w.heap.size + 1, 3, none⟩ = some (.int .i64 u.value) := hR9.c 3 (by omega)
        have o4 : w9.cell? ⟨w.heap.size + 1, 4, none⟩ = some (.int .i64 0) := hR9.c 4 (by omega)
        have HW7 := Lib.hid hw7
        have HW9 := Lib.hid hw9
        unfold put5 at HW9
        have HQ9 := Lib.hid hq9
        clear hw7 hw9 hR9 hT6 hT7 hC6 R6 hres7 hx7 hx9 nrX ntX hq9 CN CG
        go_upto_region 12 with fail
        rw [HW7.out]
        go_wp2_with fail
        rw [HW9.out]
        refine bodyPost_ret (v := .tuple #[.agg #[.int .i64 u.kind, .int .i64 u.key, .bool u.found, .int .i64 u.value, .int .i64 0], .bool true]) ?_ rfl (rcQ_of (by rw [← HEND.out]; rfl) (by rw [← HQ9.out]; exact HFIN.out))
        simp [results, Tryz.results7, go_sem, o0, o1, o2, o3, o4]
    · -- it asks
      have R4 := HL.out.rq.step hp rfl (fun _ => rfl) (Nat.le_refl _) (fun _ hk => .inl hk) hex HL.out.nx HL.out.ns
      have hs4 := R4.ex.size
      have hsn' : w2.drew.heap.size ≤ s := by
        rcases hsn with y | y
        · exact HL.out.ns s y
        · have := HL.out.rq.ex.size; omega
      have hC4 : Cb w4 w.heap.size c zT := by
        have nb : ∀ k, w.heap.size ≤ k → k < w.heap.size + 2 → w4.heap[k]? = wr.heap[k]? := fun k g1 g2 => hex.block k (by have := HL.out.rq.ex.size; omega) (fun y => by
          rcases y with y | y | y
          · rcases HL.out.rq.fx k y with z | z
            · have := HRX.out k z; omega
            · omega
          · have := HL.out.nx; omega
          · have := HL.out.ns k y; omega)
        exact ⟨HC.out.box.same (nb _ (by omega) (by omega)), HC.out.res.same (nb _ (by omega) (by omega))⟩
      have huk : u.kind = 1 := by rw [hu]
      have huy : u.key = ((pqs t1.es).getD i default).key := by rw [hu]
      have CN := scan_any (w := w5.drew) (Blk.of hm1.mc hb5.drew (by omega)) (Blk.c (Blk.of hSw.sk hb5.drew (by omega)) 7 (by omega))
      have p5 := (hp.below hb5).same (w' := w5.drew) fun _ _ => rfl
      have CG := psight_any p5.dc
      have hP : 2 ^ t1.L ≤ 1048576 := Nat.le_trans (Nat.pow_le_pow_right (n := 2) (by decide) p5.dc.ok.sz.2) (by decide)
      have hjf := hSw.le
      have hff := hSw.lt
      have HK : Hid (∀ V, Below w5.drew.heap.size w5.drew V → V.cell? ⟨r, 0, none⟩ = some (.pointer (some ⟨d, 0, none⟩)) ∧ V.cell? ⟨w4.heap.size, 0, none⟩ = some (.int .i64 u.kind)) := fun V hb => ⟨(p5.below hb).hd.c 0 (by omega), ((Blk.same (w' := w5.drew) hT5 rfl).of hb (by omega)).c 0 (by omega)⟩
      have s0 := HK.out w5.drew (Below.refl _ _)
      have hkn : (u.kind != 1) = false := by simp [huk]
      have hC5 : Cb w5.drew w.heap.size c zT := ⟨hC4.box.of hb5.drew (by omega), hC4.res.of hb5.drew (by omega)⟩
      have hT5d : Blk w5.drew w4.heap.size 5 (fun j => #[Value.int .i64 u.kind, .int .i64 u.key, .bool u.found, .int .i64 u.value, .int .i64 u.entry].getD j .nilFunc) := Blk.same (w' := w5.drew) hT5 rfl
      have hsz5 : w5.drew.heap.size = w4.heap.size + 1 := hs5
      have HB5 : Hid (Below w4.heap.size w4 w5.drew) := hb5.drew
      have HR4 := Lib.hid R4
      have HP4 := Lib.hid hp
      have HC5 := Lib.hid hC5
      have HT5 := Lib.hid hT5d
      have HM1 := Lib.hid hm1
      have HTOLD := Lib.hid (toldQ_of HL.out hii hhi hkey hFd hm1 hmv hms hms1 hma hSw hnl hll hlp hUp hsn' R4)
      have HK1 : Hid (m1.u.kind = 1) := by
        have e : m1.u.kind = 1 := by rw [hmu]; exact huk
        exact Lib.hid e
      have HUY := Lib.hid huy
      unfold sgV at CG
      generalize 2 ^ t1.L = NL at hP CG hff
      generalize hVN : ((j : Nat) : Int) = vn at CN
      have n13 : IntKind.i64.wrap ((NL : Int) + 13) = (NL : Int) + 13 := i64_small (by omega) (by omega)
      have hdc : decide ((NL : Int) + 13 < vn) = false := decide_eq_false (by omega)
      clear hii hhi hkey hFd hp hex hm1 hmu hmv hms hms1 hma hSw hnl hll hlp hUp hsn hsn' R4 hC4 p5 hb5 hT5 hC5 hT5d hw5 hu huy huk
      go_upto_region 8 with fail
      rw [HW5.out]
      refine wp_region_noPanic ?_
      refine wp_region_held_drew (S := fun V => V.cell? ⟨r, 0, none⟩ = some (.pointer (some ⟨d, 0, none⟩)) ∧ V.cell? ⟨w4.heap.size, 0, none⟩ = some (.int .i64 u.kind)) (by kernel_rfl) s0 (fun hSc => ?_)
      refine takeQ_at (i := 0) (d := some 31) (v := ?_) rfl rfl (by kernel_rfl) (by kernel_rfl) (by kernel_rfl) (fun _ _ _ h => h) (Or.inl ⟨by rfl, ?hy⟩) hSc ?_
      case hy => (intro w hSw; (try dsimp only at hSw); go_simp; try with_reducible rfl)
      simp only [Act.put, List.setIfInBounds_toArray, List.set_cons_zero, List.set_cons_succ]
      refine takeQ_at (i := 2) (d := some 33) (v := ?_) rfl rfl (by kernel_rfl) (by kernel_rfl) (by kernel_rfl) (fun _ _ _ h => h) (Or.inl ⟨by rfl, ?hy⟩) hSc ?_
      case hy => (intro w hSw; (try dsimp only at hSw); go_simp; try with_reducible rfl)
      simp only [Act.put, List.setIfInBounds_toArray, List.set_cons_zero, List.set_cons_succ]
      refine takeQ_at (i := 3) (d := some 34) (v := ?_) rfl rfl (by kernel_rfl) (by kernel_rfl) (by kernel_rfl) (fun _ _ _ h => h) (Or.inl ⟨by rfl, ?hy⟩) hSc ?_
      case hy => (intro w hSw; (try dsimp only at hSw); go_simp; try with_reducible rfl)
      simp only [Act.put, List.setIfInBounds_toArray, List.set_cons_zero, List.set_cons_succ]
      refine takeQ_at (i := 4) (d := some 35) (v := ?_) rfl rfl (by kernel_rfl) (by kernel_rfl) (by kernel_rfl) (fun _ _ _ h => h) (Or.inl ⟨by rfl, ?hy⟩) hSc ?_
      case hy => (intro w hSw; (try dsimp only at hSw); go_simp; try with_reducible rfl)
      simp only [Act.put, List.setIfInBounds_toArray, List.set_cons_zero, List.set_cons_succ]
      refine takeQ_at (i := 5) (d := some 36) (v := ?_) rfl rfl (by kernel_rfl) (by kernel_rfl) (by kernel_rfl) (fun _ _ _ h => h) (Or.inl ⟨by rfl, ?hy⟩) hSc ?_
      case hy => (intro w hSw; (try dsimp only at hSw); go_simp; try with_reducible rfl)
      simp only [Act.put, List.setIfInBounds_toArray, List.set_cons_zero, List.set_cons_succ]
      refine wpAnyH_ready (rs := [1]) (by kernel_rfl) (by simp) ?_
      refine AllReadyH.cons rfl (fun K hK => ?_) AllReadyH.nil
      go_simp
      refine CN.mono ?_
      rintro e v9 ⟨rfl, rfl⟩
      refine hK.out _ _ s0 (fun hSn => ?_)
      clear hK K
      refine wpAnyH_ready (rs := [6]) (by kernel_rfl) (by simp) ?_
      refine AllReadyH.cons rfl (fun K hK => ?_) AllReadyH.nil
      go_simp
      refine CG.mono ?_
      rintro e w6 ⟨hc6, ev6, rfl, _, hb6⟩
      have s6 := HK.out w6 hb6
      have HB6 := Lib.hid hb6
      have hfd := sgq_field2 (.int .i64 (t1.L : Int)) (.int .i64 (wd t1.L : Int)) ev6 (.int .i64 (t1.live : Int)) (.int .i64 (t1.births : Int)) (.int .i64 (t1.made : Int)) (some ⟨hc6, 0, none⟩) NL NL
      clear hb6
      refine hK.out _ _ s6 (fun hSn2 => ?_)
      clear hK K
      refine takeQ_at (i := 7) (d := some 38) (v := ?_) rfl rfl (by kernel_rfl) (by kernel_rfl) (by kernel_rfl) (fun _ _ _ h => h) (Or.inl ⟨by rfl, ?hy⟩) s6 ?_
      case hy => (intro w hSw; (try dsimp only at hSw); go_simp; try with_reducible rfl)
      simp only [Act.put, List.setIfInBounds_toArray, List.set_cons_zero, List.set_cons_succ]
      refine takeQ_at (i := 8) (d := some 39) (v := ?_) rfl rfl (by kernel_rfl) (by kernel_rfl) (by kernel_rfl) (fun _ _ _ h => h) (Or.inl ⟨by rfl, ?hy⟩) s6 ?_
      case hy => (intro w hSw; (try dsimp only at hSw); go_simp; try with_reducible rfl)
      simp only [Act.put, List.setIfInBounds_toArray, List.set_cons_zero, List.set_cons_succ]
      refine takeQ_at (i := 9) (d := some 40) (v := ?_) rfl rfl (by kernel_rfl) (by kernel_rfl) (by kernel_rfl) (fun _ _ _ h => h) (Or.inl ⟨by rfl, ?hy⟩) s6 ?_
      case hy => (intro w hSw; (try dsimp only at hSw); go_simp; try with_reducible rfl)
      simp only [Act.put, List.setIfInBounds_toArray, List.set_cons_zero, List.set_cons_succ]
      refine takeQ_at (i := 10) (d := some 41) (v := .bool false) rfl rfl (by kernel_rfl) (by kernel_rfl) (by kernel_rfl) (fun _ _ _ h => h) (Or.inl ⟨by rfl, ?hy⟩) s6 ?_
      case hy => (intro w hSw; (try dsimp only at hSw); go_simp; try with_reducible rfl)
      simp only [Act.put, List.setIfInBounds_toArray, List.set_cons_zero, List.set_cons_succ]
      refine takeQ_at (i := 11) (d := some 42) (v := ?_) rfl rfl (by kernel_rfl) (by kernel_rfl) (by kernel_rfl) (fun _ _ _ h => h) (Or.inl ⟨by rfl, ?hy⟩) s6 ?_
      case hy => (intro w hSw; (try dsimp only at hSw); go_simp; try with_reducible rfl)
      simp only [Act.put, List.setIfInBounds_toArray, List.set_cons_zero, List.set_cons_succ]
      refine takeQ_at (i := 12) (d := some 43) (v := undef) rfl rfl (by kernel_rfl) (by kernel_rfl) (by kernel_rfl) (fun _ _ _ h => h) (Or.inr ⟨by rfl, rfl⟩) s6 ?_
      simp only [Act.put, List.setIfInBounds_toArray, List.set_cons_zero, List.set_cons_succ]
      refine takeQ_at (i := 13) (d := some 44) (v := undef) rfl rfl (by kernel_rfl) (by kernel_rfl) (by kernel_rfl) (fun _ _ _ h => h) (Or.inr ⟨by rfl, rfl⟩) s6 ?_
      simp only [Act.put, List.setIfInBounds_toArray, List.set_cons_zero, List.set_cons_succ]
      refine takeQ_at (i := 14) (d := some 45) (v := undef) rfl rfl (by kernel_rfl) (by kernel_rfl) (by kernel_rfl) (fun _ _ _ h => h) (Or.inr ⟨by rfl, rfl⟩) s6 ?_
      simp only [Act.put, List.setIfInBounds_toArray, List.set_cons_zero, List.set_cons_succ]
      refine takeQ_at (i := 15) (d := some 46) (v := ?_) rfl rfl (by kernel_rfl) (by kernel_rfl) (by kernel_rfl) (fun _ _ _ h => h) (Or.inl ⟨by rfl, ?hy⟩) s6 ?_
      case hy => (intro w hSw; (try dsimp only at hSw); go_simp; try with_reducible rfl)
      simp only [Act.put]
      refine wpAnyH_done (by kernel_rfl) ?_ _
      refine NoPanic.normal ?_
      clear s0 s6 hfd hdc n13 CN CG
      have p6 := ((HP4.out.below HB5.out).below HB6.out)
      have hT6 := HT5.out.of HB6.out (by omega)
      have hC6 : Cb w6 w.heap.size c zT := ⟨HC5.out.box.of HB6.out (by omega), HC5.out.res.of HB6.out (by omega)⟩
      have q0c : w6.cell? ⟨w4.heap.size, 0, none⟩ = some (.int .i64 u.kind) := hT6.c 0 (by omega)
      have q1c : w6.cell? ⟨w4.heap.size, 1, none⟩ = some (.int .i64 u.key) := hT6.c 1 (by omega)
      have b2c : w6.cell? ⟨w.heap.size, 2, none⟩ = some (.int .i64 c.key) := hC6.box.c 2 (by omega)
      have x4 : w6.cell? ⟨r, 4, none⟩ = some (.bool true) := p6.hd.c 4 (by omega)
      have HB46 : Hid (Below w4.heap.size w4 w6) := HB5.out.trans (HB6.out.mono HB5.out.size)
      have HC6 := Lib.hid hC6
      have C1 := rone_any (w := w6) (r := r) (same := same) (p6.hd.c 3 (by omega)) u.key c.key
      clear p6 hT6 hC6
      go_wp2_with fail
      refine C1.mono ?_
      rintro e w7 ⟨rfl, hb7⟩
      have C2 := tell_yes (Blk.of HM1.out.mc (HB46.out.trans (hb7.mono HB46.out.size)) (by omega)) HK1.out (oneQ same u.key c.key)
      have HB7 := Lib.hid hb7
      clear C1 hb7
      go_wp2_with fail
      refine C2.mono ?_
      rintro e w8 ⟨rfl, hmc8, hx8⟩
      rw [HUY.out] at hmc8
      have hb47 := HB46.out.trans (HB7.out.mono HB46.out.size)
      obtain ⟨k2, m2, hLn⟩ := HTOLD.out _ _ _ _ _ _ _ _ _ _ (((RqR.refl HP4.out).below hb47)) rfl hmc8 hx8
      have hC8 : Cb w8 w.heap.size c zT := by
        have nx := HL.out.nx
        exact ⟨(HC6.out.box.of HB7.out (by omega)).same (hx8.block _ ((HC6.out.box.of HB7.out (by omega)).lt (by omega)) (fun e => by omega)), (HC6.out.res.of HB7.out (by omega)).same (hx8.block _ ((HC6.out.res.of HB7.out (by omega)).lt (by omega)) (fun e => by omega))⟩
      have HLN := Lib.hid hLn
      have HC8 := Lib.hid hC8
      have HQ9 := Lib.hid hq9
      clear C2 hmc8 hx8 hLn hC8 hb47
      go_wp2_with fail
      go_roundw
      case rel => exact ⟨nn + 1, by omega, by first | rfl | go_num, q9, gi1, rr1, h1, ev1, av1, t1, _, _, k2, _, m2, HLN.out, HC8.out, HQ9.out⟩
      case measure => simp [intOf]; omega
end Go.Proofs.YtbpflmdefpjcaaaGreat
namespace Go.Proofs.YtbpflmdefpjcaaaGreat
open Go.RowKit Go.WideShapes

theorem eqDn (w : World) : (binOp .eql 25 (.pointer none) (.pointer none)).run Tryz.prog w = .ok (.bool true) w := by kernel_rfl
theorem eqMn (w : World) : (binOp .eql 45 (.pointer none) (.pointer none)).run Tryz.prog w = .ok (.bool true) w := by kernel_rfl
theorem kept_nil (w : World) : Calls Tryz.prog 30 #[.pointer none] w fun e w' => e = .returned (.pointer none) ∧ w' = w := by
  have h1 := eqDn
  go_enter Tryz.func30, Tryz.ntmps30
  go_wp2
  go_ret
  exact ⟨rfl, rfl⟩
theorem maNone_nil (w : World) : Calls Tryz.prog 24 #[.pointer none] w fun e w' => e = .returned (.bool true) ∧ w' = w := by
  have h1 := eqMn
  go_enter Tryz.func24, Tryz.ntmps24
  go_wp2
  go_ret
  exact ⟨rfl, rfl⟩
theorem scan_nil (w : World) : Calls Tryz.prog 16 #[.pointer none] w fun e w' => e = .returned (.int .i64 0) ∧ w' = w := by
  have h1 := eqMn
  go_enter Tryz.func16, Tryz.ntmps16
  go_wp2
  go_ret
  exact ⟨rfl, rfl⟩
theorem tell_nil (c : Bool) (w : World) : Calls Tryz.prog 11 #[.pointer none, .bool c] w fun e w' => e = .returned (.int .i64 1) ∧ w' = w := by
  have C1 := maNone_nil w
  go_enter Tryz.func11, Tryz.ntmps11
  go_wp2_with fail
  refine C1.mono ?_
  rintro e w1 ⟨rfl, h⟩
  rw [h]
  go_wp2
  go_ret
  exact ⟨rfl, rfl⟩
theorem pclear_nil (w : World) : Calls Tryz.prog 32 #[.pointer none] w fun e w' => e = .returned (.tuple #[]) ∧ w' = w := by
  have h1 := eqDn
  go_enter Tryz.func32, Tryz.ntmps32
  go_wp2
  refine bodyPost_ret (v := .tuple #[]) (by simp [results, Tryz.results32, go_sem]) rfl ?_
  exact ⟨rfl, rfl⟩
theorem version_nil (w : World) : Calls Tryz.prog 22 #[.pointer none] w fun e w' => e = .returned (.int .i64 0) ∧ w' = w := by
  have h1 := eqDn
  go_enter Tryz.func22, Tryz.ntmps22
  go_wp2
  go_ret
  exact ⟨rfl, rfl⟩
theorem version_any {w : World} {d : Nat} {v : Nat} (hv : v ≤ 1000000000) (k2 : w.cell? ⟨d, 2, none⟩ = some (.int .u64 (v : Int))) : Calls Tryz.prog 22 #[.pointer (some ⟨d, 0, none⟩)] w fun e w' => e = .returned (.int .i64 (v : Int)) ∧ w' = w := by
  have h1 := eqD d
  have e1 : IntKind.i64.wrap (v : Int) = (v : Int) := i64_small (by omega) (by omega)
  go_enter Tryz.func22, Tryz.ntmps22
  go_wp2
  go_ret
  exact ⟨rfl, rfl⟩
set_option maxRecDepth 100000 in
theorem step_nil (w : World) : Calls Tryz.prog 10 #[.pointer none] w fun e w' => e = .returned (tuV Tu.zero) ∧ Below w.heap.size w w' := by
  have C1 := maNone_nil
  unfold tuV Tu.zero
  obtain ⟨w1, hw1⟩ : ∃ y, w.alloc (.cells #[.int .i64 0, .int .i64 0, .bool false, .int .i64 0, .int .i64 0] 40) = y := ⟨_, rfl⟩
  obtain ⟨hX1, hB1, hs1⟩ := tu_zero_blk w hw1
  have q0 : w1.cell? ⟨w.heap.size, 0, none⟩ = some (.int .i64 0) := hX1.c 0 (by omega)
  have q1 : w1.cell? ⟨w.heap.size, 1, none⟩ = some (.int .i64 0) := hX1.c 1 (by omega)
  have q2 : w1.cell? ⟨w.heap.size, 2, none⟩ = some (.bool false) := hX1.c 2 (by omega)
  have q3 : w1.cell? ⟨w.heap.size, 3, none⟩ = some (.int .i64 0) := hX1.c 3 (by omega)
  have q4 : w1.cell? ⟨w.heap.size, 4, none⟩ = some (.int .i64 0) := hX1.c 4 (by omega)
  have z0 := hX1.z 0
  have z1 := hX1.z 1
  have z2 := hX1.z 2
  have z3 := hX1.z 3
  have z4 := hX1.z 4
  have HW1 := Lib.hid hw1
  have HR9 : Hid (Blk (putU w1 w.heap.size Tu.zero) w.heap.size 5 _) := put5_blk hX1 _ _ _ _ _
  have HF9 : Hid (Below w.heap.size w (putU w1 w.heap.size Tu.zero)) := hB1.trans (putU_below _ (Nat.le_refl _) _)
  clear hX1 hB1 hs1 hw1
  unfold putU put5 Tu.zero at HR9 HF9
  go_enter Tryz.func10, Tryz.ntmps10
  go_upto_region 1 with fail
  rw [HW1.out]
  go_wp2_with fail
  refine (C1 w1).mono ?_
  rintro e w2 ⟨rfl, h⟩
  rw [h]
  clear C1 h
  go_wp2_with fail
  generalize World.setCell (World.setCell (World.setCell (World.setCell (World.setCell w1 _ _) _ _) _ _) _ _) _ _ = wZ at *
  have o0 : wZ.cell? ⟨w.heap.size, 0, none⟩ = some (.int .i64 0) := HR9.out.c 0 (by omega)
  have o1 : wZ.cell? ⟨w.heap.size, 1, none⟩ = some (.int .i64 0) := HR9.out.c 1 (by omega)
  have o2 : wZ.cell? ⟨w.heap.size, 2, none⟩ = some (.bool false) := HR9.out.c 2 (by omega)
  have o3 : wZ.cell? ⟨w.heap.size, 3, none⟩ = some (.int .i64 0) := HR9.out.c 3 (by omega)
  have o4 : wZ.cell? ⟨w.heap.size, 4, none⟩ = some (.int .i64 0) := HR9.out.c 4 (by omega)
  refine bodyPost_ret (v := .agg #[.int .i64 0, .int .i64 0, .bool false, .int .i64 0, .int .i64 0]) ?_ rfl ⟨rfl, HF9.out⟩
  simp [results, Tryz.results10, go_sem, o0, o1, o2, o3, o4]
set_option maxRecDepth 100000 in
set_option maxHeartbeats 4000000 in
theorem rowOf_no (goal : Int) (hg : ¬ (1 ≤ goal ∧ goal ≤ 4)) (w : World) :
    Calls Tryz.prog 23 #[.int .i64 goal] w fun e w' => e = .returned (.tuple #[.agg #[.int .i64 0, .nilFunc, .nilFunc], .bool false]) ∧ Below w.heap.size w w' := by
  obtain ⟨w2, hw2⟩ : ∃ y, (w.alloc (.cells #[.int .i64 0, .nilFunc, .nilFunc] 73)).alloc (.cells #[.int .i64 1, hitV 1, missV 1, .int .i64 2, hitV 2, missV 2, .int .i64 3, hitV 3, missV 3, .int .i64 4, hitV 4, missV 4] 73) = y := ⟨_, rfl⟩
  obtain ⟨hR, hB, hb2⟩ := rows_new w hw2
  have lR := hR.lt (by omega)
  have lB := hB.lt (by omega)
  have HR := Lib.hid hR
  have HB := Lib.hid hB
  have HB2 := Lib.hid hb2
  have HW2 : Hid ((w.alloc (.cells #[.int .i64 0, .nilFunc, .nilFunc] 73)).alloc (.cells #[.int .i64 1, .func (.func 35) #[] #[], .func (.func 36) #[] #[], .int .i64 2, .func (.func 37) #[] #[], .func (.func 38) #[] #[], .int .i64 3, .func (.func 39) #[] #[], .func (.func 36) #[] #[], .int .i64 4, .func (.func 35) #[] #[], .func (.func 38) #[] #[]] 73) = w2) := hw2
  clear hR hB hb2 hw2
  go_enter Tryz.func23, Tryz.ntmps23
  go_wp2_with fail
  rw [HW2.out]
  go_loopw [14, 6] (fun iv _ wr => ∃ k : Nat, k ≤ 4 ∧ iv = .int .i64 (k : Int) ∧ Below w2.heap.size w2 wr) (fun iv _ _ => 4 - (intOf iv).toNat)
  case atStart => exact ⟨0, by omega, rfl, Below.refl _ _⟩
  case round =>
    obtain ⟨k, hk, rfl, hbk⟩ := hrel
    by_cases hk4 : k < 4
    · have t1 : (k : Int) < 4 := by omega
      obtain ⟨e0, e1, e2⟩ := rowsF_at k hk4
      have hBk := HB.out.of hbk (by omega)
      have c0 : wr.cell? ⟨w.heap.size + 1, k * 3, none⟩ = some (.int .i64 ((k : Int) + 1)) := by rw [hBk.c _ (by omega), e0]
      have c1 : wr.cell? ⟨w.heap.size + 1, k * 3 + 1, none⟩ = some (hitV (k + 1)) := by rw [hBk.c _ (by omega), e1]
      have c2 : wr.cell? ⟨w.heap.size + 1, k * 3 + 2, none⟩ = some (missV (k + 1)) := by rw [hBk.c _ (by omega), e2]
      clear e0 e1 e2 hBk
      obtain ⟨fh, hfh⟩ : ∃ x, hitV (k + 1) = Value.func (.func x) #[] #[] := ⟨_, rfl⟩
      obtain ⟨fm, hfm⟩ : ∃ x, missV (k + 1) = Value.func (.func x) #[] #[] := ⟨_, rfl⟩
      rw [hfh] at c1
      rw [hfm] at c2
      have tq : ((k : Int) + 1 == goal) = false := by rw [beq_eq_false_iff_ne]; omega
      have HBN : Hid (∀ o, Below w2.heap.size w2 (wr.alloc o)) := fun o => hbk.alloc hbk.size o
      clear hbk hg
      go_wp2_with fail
      go_roundw
      case rel => exact ⟨k + 1, by omega, by go_num, HBN.out _⟩
      case measure => simp [intOf]; omega
    · obtain rfl : k = 4 := by omega
      have hR3 := HR.out.of hbk (by omega)
      have q0 : wr.cell? ⟨w.heap.size, 0, none⟩ = some (.int .i64 0) := hR3.c 0 (by omega)
      have q1 : wr.cell? ⟨w.heap.size, 1, none⟩ = some .nilFunc := hR3.c 1 (by omega)
      have q2 : wr.cell? ⟨w.heap.size, 2, none⟩ = some .nilFunc := hR3.c 2 (by omega)
      have z0 := hR3.z 0
      have z1 := hR3.z 1
      have z2 := hR3.z 2
      have HF := Lib.hid (((hR3.put 0 (.int .i64 0)).put 1 .nilFunc).put 2 .nilFunc)
      have HBB : Hid (Below w.heap.size w (((wr.setCell ⟨w.heap.size, 0, none⟩ (.int .i64 0)).setCell ⟨w.heap.size, 1, none⟩ .nilFunc).setCell ⟨w.heap.size, 2, none⟩ .nilFunc)) := by
        have h1 := HB2.out.trans (hbk.mono HB2.out.size)
        exact ((h1.setCell (p := ⟨w.heap.size, 0, none⟩) (Nat.le_refl _) _).setCell (p := ⟨w.heap.size, 1, none⟩) (Nat.le_refl _) _).setCell (p := ⟨w.heap.size, 2, none⟩) (Nat.le_refl _) _
      clear hR3 hbk
      go_wp2_with fail
      generalize World.setCell (World.setCell (World.setCell wr _ _) _ _) _ _ = w4 at *
      have o0 : w4.cell? ⟨w.heap.size, 0, none⟩ = some (.int .i64 0) := HF.out.c 0 (by omega)
      have o1 : w4.cell? ⟨w.heap.size, 1, none⟩ = some .nilFunc := HF.out.c 1 (by omega)
      have o2 : w4.cell? ⟨w.heap.size, 2, none⟩ = some .nilFunc := HF.out.c 2 (by omega)
      refine bodyPost_ret (v := .tuple #[.agg #[.int .i64 0, .nilFunc, .nilFunc], .bool false]) ?_ rfl ⟨rfl, HBB.out⟩
      simp [results, Tryz.results23, go_sem, o0, o1, o2]
end Go.Proofs.YtbpflmdefpjcaaaGreat
namespace Go.Proofs.YtbpflmdefpjcaaaGreat
open Go.RowKit Go.WideShapes

theorem Tb.live_clear (t : Tb) : t.clear.live = 0 := rfl
set_option maxRecDepth 100000 in
set_option maxHeartbeats 4000000 in
theorem clear7_any {w : World} {g gi r h : Nat} {ev : Value} {t : Tb} {mv : Value} {M : Int → Int → World → Prop} {a b : Int} (hD : Dt w g gi r h ev t mv) (hMo : MtOk mv M) (hM : M a b w) (hm : t.made ≤ 1000000) (ha : 0 ≤ a ∧ a ≤ 1000000000) (ht : t.turn ≤ 1000000) :
    Calls Tryz.prog 50 #[.pointer (some ⟨g, 0, none⟩)] w fun e w' => e = .returned (.tuple #[]) ∧ ∃ gi' r' h' ev', Ad w g gi r h ev mv M (a + 1) b t.clear w' gi' r' h' ev' := by
  have k1 : w.cell? ⟨g, 1, none⟩ = some (.pointer (some ⟨gi, 0, none⟩)) := hD.hd.c 1 (by omega)
  have CR := ready_yes k1
  have k2 : w.cell? ⟨g, 2, none⟩ = some ev := hD.hd.c 2 (by omega)
  have k3 : w.cell? ⟨g, 3, none⟩ = some (.int .i64 (t.live : Int)) := hD.hd.c 3 (by omega)
  have k6 : w.cell? ⟨g, 6, none⟩ = some (.int .i64 (t.turn : Int)) := hD.hd.c 6 (by omega)
  have z2 := hD.hd.z 2
  have z3 := hD.hd.z 3
  have z6 := hD.hd.z 6
  have e6 : IntKind.i64.wrap ((t.turn : Int) + 1) = (t.turn : Int) + 1 := i64_small (by omega) (by omega)
  have lg := hD.hd.lt (by omega)
  obtain ⟨w2, hw2⟩ : ∃ y, ((w.setCell ⟨g, 2, none⟩ (.slice none 0 0)).setCell ⟨g, 3, none⟩ (.int .i64 0)).setCell ⟨g, 6, none⟩ (.int .i64 ((t.turn : Int) + 1)) = y := ⟨_, rfl⟩
  have hB2 : Blk w2 g 7 (fun x => if x = 6 then .int .i64 ((t.turn : Int) + 1) else if x = 3 then .int .i64 0 else if x = 2 then .slice none 0 0 else dF mv gi ev t x) := by rw [← hw2]; exact ((hD.hd.put 2 _).put 3 _).put 6 _
  have hX2 : Ex (fun j => dX g gi r h ev j ∨ mB mv j) w w2 := by rw [← hw2]; exact (((Ex.refl _ w).setCell (p := ⟨g, 2, none⟩) (fun _ => .inl (.inl rfl)) _).setCell (p := ⟨g, 3, none⟩) (fun _ => .inl (.inl rfl)) _).setCell (p := ⟨g, 6, none⟩) (fun _ => .inl (.inl rfl)) _
  have hM2 : M a b w2 := hMo.same a b w _ hM fun k hk => by
    have := (hD.mp k hk).1
    rw [← hw2, Below.heap_setCell _ _ _ _ this, Below.heap_setCell _ _ _ _ this, Below.heap_setCell _ _ _ _ this]
  have C1 := makeIndex_any (L := 3) (made := t.made) (es := []) ⟨rfl, by decide, by decide⟩ hB2 rfl rfl rfl (Es.nil w2) hMo hM2 (fun k hk => by cases hk) (fun k hk => (hD.mp k hk).1) (fun n hn => by simp at hn) (by simp) hm ha (by simp)
  have hlm := hMo.lt a b w
  have HM := Lib.hid hM
  have HMP := Lib.hid hD.mp
  have HX2 := Lib.hid hX2
  have HW2 := Lib.hid hw2
  clear hD hMo hM hB2 hM2 hX2 hw2
  go_enter Tryz.func50, Tryz.ntmps50
  go_wp2_with fail
  refine CR.mono ?_
  rintro e w1 ⟨rfl, rfl⟩
  clear CR
  go_wp2_with fail
  rw [HW2.out]
  refine C1.mono ?_
  rintro e w3 ⟨rfl, gi', r', h', hgi, hr, hh, hI⟩
  have hs2 : w1.heap.size ≤ w2.heap.size := HX2.out.size
  have HD : Hid (Ad w1 g gi r h ev mv M (a + 1) b t.clear w3 gi' r' h' (.slice none 0 0)) := by
    refine ⟨⟨hI.hd.congr (fun j hj => ?_), hI.row, hI.cl, (fun k hk => by cases hk), ⟨by omega, by omega, by omega⟩, fun k hk => ?_⟩, hI.m, fun j hj => ?_, HX2.out.next hI.ex (fun k hk h => h.elim (fun e => .inl (.inl e)) .inr)⟩
    · have : j = 0 ∨ j = 1 ∨ j = 2 ∨ j = 3 ∨ j = 4 ∨ j = 5 ∨ j = 6 := by omega
      rcases this with rfl | rfl | rfl | rfl | rfl | rfl | rfl
      · rfl
      · rfl
      · rfl
      · rfl
      · rfl
      · show Value.int .i64 (((t.made + 1 : Nat)) : Int) = Value.int .i64 ((t.made : Int) + 1)
        rw [Int.natCast_add]
        rfl
      · show Value.int .i64 (((t.turn + 1 : Nat)) : Int) = Value.int .i64 ((t.turn : Int) + 1)
        rw [Int.natCast_add]
        rfl
    · have := hlm k HM.out hk
      exact ⟨(HMP.out k hk).1, by omega, by omega, by omega, by simp [Value.ownBlock]⟩
    · rcases hj with rfl | rfl | rfl | rfl | hj
      · exact .inl (.inl rfl)
      · exact .inr (by omega)
      · exact .inr (by omega)
      · exact .inr (by omega)
      · cases hj
  clear C1 hI
  go_wp2
  go_end0
  exact ⟨rfl, gi', r', h', _, HD.out⟩
end Go.Proofs.YtbpflmdefpjcaaaGreat
namespace Go.Proofs.YtbpflmdefpjcaaaGreat
open Go.RowKit Go.WideShapes

/-- The reference's cells: their log, their list at block q. -/
def rv (L q S : Nat) : Value := .agg #[.int .i64 (L : Int), .slice (some ⟨q, 0, none⟩) S S]
structure Rf (w : World) (q S : Nat) (f : Nat → Int) : Prop where
  hc : ∀ j, j < S → w.cell? ⟨q, j, none⟩ = some (.int .i64 (f j))
  hz : ∀ j, w.frozen? ⟨q, j, none⟩ = false
theorem Rf.same {w w' : World} {q S : Nat} {f : Nat → Int} (h : Rf w q S f) (e : w'.heap[q]? = w.heap[q]?) : Rf w' q S f :=
  ⟨fun j hj => (World.cell?_of_block (a := ⟨q, j, none⟩) e).trans (h.hc j hj), fun j => (World.frozen?_of_block (a := ⟨q, j, none⟩) e).trans (h.hz j)⟩
theorem Rf.lt {w : World} {q S : Nat} {f : Nat → Int} (h : Rf w q S f) (hS : 0 < S) : q < w.heap.size := lt_of_cell (h.hc 0 hS)
theorem Rf.below {w w' : World} {q S : Nat} {f : Nat → Int} (h : Rf w q S f) (hS : 0 < S) (hb : Below w.heap.size w w') : Rf w' q S f := h.same (hb.block _ (h.lt hS))
theorem Rf.put {w : World} {q S : Nat} {f : Nat → Int} (h : Rf w q S f) (i : Nat) (hi : i < S) (v : Int) : Rf (w.setCell ⟨q, i, none⟩ (.int .i64 v)) q S (upd f i v) := by
  refine ⟨fun j hj => ?_, fun j => by rw [World.frozen?_setCell]; exact h.hz j⟩
  unfold upd
  by_cases e : j = i
  · subst e
    rw [if_pos rfl]
    exact World.cell?_setCell_same' _ _ _ (by rw [h.hc j hj]; rfl)
  · rw [if_neg e, World.cell?_setCell_other _ _ _ _ (by intro he; injection he with h1 h2; exact e h2.symm)]
    exact h.hc j hj
theorem Rf.congr {w : World} {q S : Nat} {f f' : Nat → Int} (h : Rf w q S f) (e : ∀ j, j < S → f' j = f j) : Rf w q S f' :=
  ⟨fun j hj => by rw [e j hj]; exact h.hc j hj, h.hz⟩
theorem Tryz.infoInt : (Tryz.prog.info? 3).map (fun i => (i.zero, i.size, i.bytes)) = some (some (.int .i64 0), 1, 8) := by kernel_rfl

theorem cell_new0 (w : World) (a b : Value) (t : TypeId) : (w.alloc (.cells #[a, b] t)).cell? ⟨w.heap.size, 0, none⟩ = some a := by rw [World.cell?_alloc_at _ _ _ _ rfl]; rfl
theorem cell_new1 (w : World) (a b : Value) (t : TypeId) : (w.alloc (.cells #[a, b] t)).cell? ⟨w.heap.size, 1, none⟩ = some b := by rw [World.cell?_alloc_at _ _ _ _ rfl]; rfl
theorem put2_facts {w : World} {K : Nat} {u v : Value} (h0 : w.cell? ⟨K, 0, none⟩ = some u) (h1 : w.cell? ⟨K, 1, none⟩ = some v) (a b : Value) :
    ((w.setCell ⟨K, 0, none⟩ a).setCell ⟨K, 1, none⟩ b).cell? ⟨K, 0, none⟩ = some a ∧ ((w.setCell ⟨K, 0, none⟩ a).setCell ⟨K, 1, none⟩ b).cell? ⟨K, 1, none⟩ = some b ∧ But K w ((w.setCell ⟨K, 0, none⟩ a).setCell ⟨K, 1, none⟩ b) := by
  refine ⟨?_, ?_, ((But.refl K w).setCell 0 a).setCell 1 b⟩
  · rw [World.cell?_setCell_other _ _ _ _ (by intro he; injection he with _ h2; omega)]
    exact World.cell?_setCell_same' _ _ _ (by rw [h0]; rfl)
  · refine World.cell?_setCell_same' _ _ _ ?_
    rw [World.cell?_setCell_other _ _ _ _ (by intro he; injection he with _ h2; omega), h1]
    rfl
/-- A list of ints that was just made. -/
theorem rf_made {w1 : World} {B n g : Nat} (h : w1.ownsRow B 3 1 (.slice (some ⟨g, 0, none⟩) n n) n (madeCells (Value.int .i64 0).cells (n * 1)).toList) : Rf w1 g n (emp 0) := by
  refine ⟨fun j hj => ?_, fun j => h.frozenAt j⟩
  rw [h.cellAt j (by omega)]
  simp [madeCells, Value.cells, hj, Nat.mod_one, emp]
end Go.Proofs.YtbpflmdefpjcaaaGreat
namespace Go.Proofs.YtbpflmdefpjcaaaGreat
open Go.RowKit Go.WideShapes

/-- Its cells in memory. -/
def tF (ev : Value) (q : Nat) (t : Tb) (mv : Value) : Nat → Value
  | 0 => ev
  | 1 => .int .i64 (t.L : Int)
  | 2 => .slice (some ⟨q, 0, none⟩) (2 ^ t.L) (2 ^ t.L)
  | 3 => .int .i64 (t.live : Int)
  | 4 => .int .i64 (t.births : Int)
  | 5 => .int .i64 (t.made : Int)
  | 6 => .int .i64 (t.turn : Int)
  | _ => mv
structure Rt (w : World) (g : Nat) (ev : Value) (q : Nat) (t : Tb) (mv : Value) : Prop where
  hd : Blk w g 8 (tF ev q t mv)
  es : Es w ev t.es
  rf : Rf w q (2 ^ t.L) t.c
  ap : ∀ k, ev.ownBlock = some k → k ≠ g ∧ k ≠ q
  sz : 3 ≤ t.L ∧ t.L ≤ 20
  mp : ∀ k, mB mv k → k ≠ g ∧ k ≠ q ∧ ev.ownBlock ≠ some k
theorem Rt.gq {w : World} {g : Nat} {ev : Value} {q : Nat} {t : Tb} {mv : Value} (h : Rt w g ev q t mv) : g ≠ q := by
  intro e
  subst e
  have h1 := h.rf.hc 2 (Nat.lt_of_lt_of_le (by decide) (Nat.pow_le_pow_right (n := 2) (by decide) h.sz.1))
  have h2 : w.cell? ⟨g, 2, none⟩ = some (.slice (some ⟨g, 0, none⟩) (2 ^ t.L) (2 ^ t.L)) := h.hd.c 2 (by omega)
  rw [h2] at h1
  simp at h1
theorem Rt.same {w w' : World} {g : Nat} {ev : Value} {q : Nat} {t : Tb} {mv : Value} (h : Rt w g ev q t mv) (e : ∀ k, (k = g ∨ k = q ∨ ev.ownBlock = some k) → w'.heap[k]? = w.heap[k]?) : Rt w' g ev q t mv :=
  ⟨h.hd.same (e g (.inl rfl)), h.es.same fun k hk => e k (.inr (.inr hk)), h.rf.same (e q (.inr (.inl rfl))), h.ap, h.sz, h.mp⟩
theorem Rt.below {w w' : World} {g : Nat} {ev : Value} {q : Nat} {t : Tb} {mv : Value} (h : Rt w g ev q t mv) (hb : Below w.heap.size w w') : Rt w' g ev q t mv :=
  h.same fun k hk => hb.block k (by
    rcases hk with rfl | rfl | hk
    · exact h.hd.lt (by omega)
    · exact h.rf.lt (pow2_pos _)
    · exact h.es.lt k hk)
theorem Rt.trSz {w : World} {g : Nat} {ev : Value} {q : Nat} {t : Tb} {mv : Value} (h : Rt w g ev q t mv) : Tr.Sz t.L (2 ^ t.L) := ⟨rfl, h.sz.2⟩
end Go.Proofs.YtbpflmdefpjcaaaGreat
namespace Go.Proofs.YtbpflmdefpjcaaaGreat
open Go.RowKit Go.WideShapes

/-- What is counted, where there are counts. -/
def four4 (a b c d : Int) : Nat → Value
  | 0 => .int .i64 a
  | 1 => .int .i64 b
  | 2 => .int .i64 c
  | _ => .int .i64 d
def Ms (w : World) (mv : Value) (a b c d : Int) : Prop := mv = .pointer none ∨ ∃ m, mv = .pointer (some ⟨m, 0, none⟩) ∧ Blk w m 4 (four4 a b c d)
theorem Ms.same {w w' : World} {mv : Value} {a b c d : Int} (h : Ms w mv a b c d) (e : ∀ k, mB mv k → w'.heap[k]? = w.heap[k]?) : Ms w' mv a b c d := by
  rcases h with h | ⟨m, h1, h2⟩
  · exact .inl h
  · exact .inr ⟨m, h1, h2.same (e m h1)⟩
theorem Ms.lt {w : World} {mv : Value} {a b c d : Int} (h : Ms w mv a b c d) : ∀ k, mB mv k → k < w.heap.size := by
  intro k hk
  rcases h with h | ⟨m, h1, h2⟩
  · rw [mB, h] at hk; cases hk
  · rw [mB, h1] at hk
    cases hk
    exact h2.lt (by omega)
theorem Ms.below {w w' : World} {mv : Value} {a b c d : Int} (h : Ms w mv a b c d) (hb : Below w.heap.size w w') : Ms w' mv a b c d := h.same fun k hk => hb.block k (h.lt k hk)
/-- The head of a table, its cells turned. -/
def setI (F : Nat → Value) (L q made : Nat) : Nat → Value
  | 1 => .int .i64 (L : Int)
  | 2 => .slice (some ⟨q, 0, none⟩) (2 ^ L) (2 ^ L)
  | 5 => .int .i64 ((made : Int) + 1)
  | j => F j
end Go.Proofs.YtbpflmdefpjcaaaGreat
namespace Go.Proofs.YtbpflmdefpjcaaaGreat
open Go.RowKit Go.WideShapes

end Go.Proofs.YtbpflmdefpjcaaaGreat
