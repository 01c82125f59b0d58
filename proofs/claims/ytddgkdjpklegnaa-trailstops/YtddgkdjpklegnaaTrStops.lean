/-
  TrailStops, walked.
-/
import Derived.Laws.EntriesVeiled
import Derived.Test.YtddgkdjpklegnaaTrStop1
namespace Go.Proofs.Ytddgkdjpklegnaa
open Go.RowKit Go.WideShapes Go.Proofs.Ytddgkdjpklegnaa.Tr

theorem Ctx.below {W0 W : World} {N M : Nat} {h : Int} {L S T b off cap bS bW bH bL bI : Nat} (c : Ctx W0 N h L S T b off cap bS bW bH bL bI) (hb : Below N W0 W) (hM : N ≤ M) : Ctx W M h L S T b off cap bS bW bH bL bI := by
  obtain ⟨l1, l2, l3, l4, l5, l6⟩ := c.lt
  exact ⟨⟨by omega, by omega, by omega, by omega, by omega, by omega⟩, (hb.cell (p := ⟨bS, 0, none⟩) l1).trans c.s, (hb.cell (p := ⟨bW, 0, none⟩) l2).trans c.w, fun j hj => (hb.cell (p := ⟨b, off + j, none⟩) l6).trans (c.g j hj), (hb.cell (p := ⟨bL, 0, none⟩) l4).trans c.l, (hb.cell (p := ⟨bH, 0, none⟩) l3).trans c.h, (hb.cell (p := ⟨bI, 0, none⟩) l5).trans c.i, c.c, c.sz⟩
theorem key_alloc (w : World) (o : Obj) (k : Nat) (h : k < w.heap.size) : (w.alloc o).heap[k]? = w.heap[k]? := (World.grownBy_alloc w o none).block k h (by simp)
/-- The three blocks of a turn. -/
def three (w : World) : World := ((w.alloc (.cells #[.int .i64 0] 3)).alloc (.cells #[.bool true] 4)).alloc (.cells #[.bool false] 4)
theorem three_size (w : World) : (three w).heap.size = w.heap.size + 3 := by simp [three]
theorem three_below (w : World) : Below w.heap.size w (three w) :=
  (((Below.refl _ w).alloc (Nat.le_refl _) _).alloc (by simp) _).alloc (by simp; omega) _
theorem three_tst (w : World) : Tst w w.heap.size 0 false (three w) := by
  have h0 : (three w).heap[w.heap.size]? = some (.cells #[.int .i64 0] 3 (0, 0)) := by
    unfold three
    rw [key_alloc _ _ _ (by simp; omega), key_alloc _ _ _ (by simp)]
    exact heap_alloc_new w _
  have h1 : (three w).heap[w.heap.size + 1]? = some (.cells #[.bool true] 4 (0, 0)) := by
    unfold three
    rw [key_alloc _ _ _ (by simp)]
    have := heap_alloc_new (w.alloc (.cells #[.int .i64 0] 3)) (.cells #[.bool true] 4)
    simpa using this
  have h2 : (three w).heap[w.heap.size + 2]? = some (.cells #[.bool false] 4 (0, 0)) := by
    unfold three
    have := heap_alloc_new ((w.alloc (.cells #[.int .i64 0] 3)).alloc (.cells #[.bool true] 4)) (.cells #[.bool false] 4)
    simpa using this
  have cc : ∀ {k : Nat} {x : Value} {t : TypeId}, (three w).heap[k]? = some (.cells #[x] t (0, 0)) → (three w).cell? ⟨k, 0, none⟩ = some x := fun h => by simp [World.cell?, h]
  exact ⟨three_below w, cc h0, cc h1, cc h2, frozen_new h0 0, frozen_new h1 0, frozen_new h2 0⟩
/-- One turn of TrailStops. -/
theorem turn_any {W0 : World} {h : Int} {L S T b off cap bS bW bH bL bI : Nat} (hS : Sz L S) (hC : Ctx W0 W0.heap.size h L S T b off cap bS bW bH bL bI) (hT : 1 ≤ T) :
    Calls Try.prog 22 #[.func (.func 16) #[] #[.pointer (some ⟨W0.heap.size + 1, 0, none⟩), .pointer (some ⟨W0.heap.size + 2, 0, none⟩), .pointer (some ⟨W0.heap.size, 0, none⟩), .pointer (some ⟨bW, 0, none⟩), .pointer (some ⟨bI, 0, none⟩), .pointer (some ⟨bS, 0, none⟩)], .pointer (some ⟨bL, 0, none⟩), .pointer (some ⟨bH, 0, none⟩)] (three W0) fun e W' =>
      e = .returned (.tuple #[]) ∧ ∃ n ov, Tst W0 W0.heap.size n ov W' ∧ (n = T ∨ n ≠ T ∧ n = S + 13) := by
  refine (seq_any hS h 16 _ bL bH (three W0) (fun bo i W => i < T ∧ W0.heap.size + 3 ≤ bo ∧ Tst W0 W0.heap.size i false W) (fun W => Tst W0 W0.heap.size T true W)
    Try.call16 (((three_tst W0).b.cell (p := ⟨bL, 0, none⟩) hC.lt.2.2.2.1).trans hC.l) (((three_tst W0).b.cell (p := ⟨bH, 0, none⟩) hC.lt.2.2.1).trans hC.h)
    (fun bo W hb _ hB => by
      rw [three_size] at hb hB
      exact ⟨by omega, hb, (three_tst W0).below hB (Nat.le_refl _)⟩)
    (fun bo i W c p _ _ hJ => ⟨hJ.1, hJ.2.1, hJ.2.2.below (stepW_below (B := bo) W bo 0 c p (Nat.le_refl _)) hJ.2.1⟩) ?_).mono ?_
  · intro bo i W _ hbo hi hJ
    refine (stops1_any hS hC hJ.2.2 hi).mono ?_
    rintro e W2 ⟨rfl, h2, hP⟩
    by_cases h3 : i + 1 = T
    · rw [decide_eq_true h3] at h2 ⊢
      rw [h3] at h2
      exact .inr ⟨rfl, h2⟩
    · rw [decide_eq_false h3] at h2 ⊢
      exact .inl ⟨rfl, ⟨by have := hJ.1; omega, hJ.2.1, h2⟩, hP bo hJ.2.1 hbo⟩
  · rintro e W' ⟨rfl, ⟨_, _, hJ⟩ | hQ⟩
    · exact ⟨rfl, S + 13, false, hJ.2.2, .inr ⟨by have := hJ.1; omega, rfl⟩⟩
    · exact ⟨rfl, T, true, hQ, .inl rfl⟩
/-- What lies about when the turns begin. -/
theorem ctx_new {wC : World} {h : Int} {L S T g cap K B : Nat} (hK : wC.cell? ⟨K, 0, none⟩ = some (.int .i64 (T : Int))) (hB : wC.cell? ⟨B, 0, none⟩ = some (.slice (some ⟨g, 0, none⟩) (S + 13) cap)) (hg : ∀ j, j < S + 13 → wC.cell? ⟨g, 0 + j, none⟩ = some (.int .i64 ((trl (uw h) L j : Nat) : Int))) (hc : S + 13 ≤ cap) (hsz : S ≤ 1048576)
    (wD : World) (hD : wD = ((wC.alloc (.cells #[.int .i64 h] 3)).alloc (.cells #[.int .i64 (L : Int)] 3)).alloc (.cells #[.func (.func 22) #[] #[.pointer (some ⟨wC.heap.size + 1, 0, none⟩), .pointer (some ⟨wC.heap.size, 0, none⟩)]] 32)) :
    Ctx wD (wC.heap.size + 3) h L S T g 0 cap K B wC.heap.size (wC.heap.size + 1) (wC.heap.size + 2) ∧ Below wC.heap.size wC wD ∧ wD.heap.size = wC.heap.size + 3 := by
  have hs : wD.heap.size = wC.heap.size + 3 := by rw [hD]; simp
  have hb : Below wC.heap.size wC wD := by
    rw [hD]
    exact (((Below.refl _ wC).alloc (Nat.le_refl _) _).alloc (by simp) _).alloc (by simp; omega) _
  have h0 : wD.heap[wC.heap.size]? = some (.cells #[.int .i64 h] 3 (0, 0)) := by
    rw [hD, key_alloc _ _ _ (by simp; omega), key_alloc _ _ _ (by simp)]
    exact heap_alloc_new wC _
  have h1 : wD.heap[wC.heap.size + 1]? = some (.cells #[.int .i64 (L : Int)] 3 (0, 0)) := by
    rw [hD, key_alloc _ _ _ (by simp)]
    have := heap_alloc_new (wC.alloc (.cells #[.int .i64 h] 3)) (.cells #[.int .i64 (L : Int)] 3)
    simpa using this
  have h2 : wD.heap[wC.heap.size + 2]? = some (.cells #[.func (.func 22) #[] #[.pointer (some ⟨wC.heap.size + 1, 0, none⟩), .pointer (some ⟨wC.heap.size, 0, none⟩)]] 32 (0, 0)) := by
    rw [hD]
    have := heap_alloc_new ((wC.alloc (.cells #[.int .i64 h] 3)).alloc (.cells #[.int .i64 (L : Int)] 3)) (.cells #[.func (.func 22) #[] #[.pointer (some ⟨wC.heap.size + 1, 0, none⟩), .pointer (some ⟨wC.heap.size, 0, none⟩)]] 32)
    simpa using this
  have cc : ∀ {k : Nat} {x : Value} {t : TypeId}, wD.heap[k]? = some (.cells #[x] t (0, 0)) → wD.cell? ⟨k, 0, none⟩ = some x := fun h => by simp [World.cell?, h]
  have lK := lt_of_cell hK
  have lB := lt_of_cell hB
  have lg := lt_of_cell (hg 0 (by omega))
  exact ⟨⟨⟨by omega, by omega, by omega, by omega, by omega, by omega⟩, (hb.cell (p := ⟨K, 0, none⟩) lK).trans hK, (hb.cell (p := ⟨B, 0, none⟩) lB).trans hB, fun j hj => (hb.cell (p := ⟨g, 0 + j, none⟩) lg).trans (hg j hj), cc h1, cc h0, cc h2, hc, hsz⟩, hb, hs⟩
set_option maxRecDepth 100000 in
set_option maxHeartbeats 4000000 in
theorem stopsLaw_near (h m : Int) {L S : Nat} (hS : Sz L S) (hL : L ≤ 10) (w : World) :
    Calls Try.prog 4 #[.int .i64 h, .int .i64 (L : Int), .int .i64 m] w fun e w' => e = .returned (.bool true) ∧ Below w.heap.size w w' := by
  have hS2 : S ≤ 1024 := by rw [← hS.eq]; exact Nat.le_trans (Nat.pow_le_pow_right (by decide) hL) (by decide)
  have hi64 := hS.i64
  have C1 := rall_any hS h (S + 13) (S + 13) (by omega) (by omega) (w.alloc (.cells #[.int .i64 m] 3))
  rw [show ((S + 13 : Nat) : Int) = (S : Int) + 13 by omega] at C1
  have t3 : IntKind.i64.wrap ((S : Int) + 13) = (S : Int) + 13 := i64_small (by omega) (by omega)
  have i1 : ¬ (L : Int) < 0 := by omega
  have i2 : ¬ 10 < (L : Int) := by omega
  have hmf : ∀ (fn : Fn) (first cap : Array Value) (w : World), (Instr.makeFunc fn first cap).run Try.prog w = .ok (.func fn first cap) w := fun _ _ _ _ => rfl
  have hfn : ∀ wx fn f1 c, (binOp .eql 32 (.func fn f1 c) .nilFunc).run Try.prog wx = .ok (.bool false) wx := fun _ _ _ _ => by kernel_rfl
  have HS : Hid (Sz L S) := hS
  clear hS
  go_enter Try.func4, Try.ntmps4
  go_wp2_with fail
  refine C1.mono ?_
  rintro e w1 ⟨v, rfl, hI, hb1⟩
  obtain ⟨a, cap, g, ev, hcap, hpl, hsg⟩ := hI.open
  rw [row_len] at ev hcap hpl
  obtain ⟨rfl, hlg, hgg⟩ := hpl (by omega)
  subst ev
  have hsz0 : (w.alloc (.cells #[.int .i64 m] 3)).heap.size = w.heap.size + 1 := by simp
  rw [hsz0] at hb1
  have hbw : Below w.heap.size w w1 := ((Below.refl _ w).alloc (Nat.le_refl _) _).trans (hb1.mono (by omega))
  have hh0 : w1.heap[w.heap.size]? = some (.cells #[.int .i64 m] 3 (0, 0)) := (hb1.block w.heap.size (by omega)).trans (heap_alloc_new w _)
  have hl0 : w.heap.size < w1.heap.size := by have := hb1.size; omega
  obtain ⟨wB, hwB⟩ : ∃ wB, w1.alloc (.cells #[.slice (some ⟨g, 0, none⟩) (S + 13) cap] 22) = wB := ⟨_, rfl⟩
  have hbB : Below w1.heap.size w1 wB := by rw [← hwB]; exact (Below.refl _ w1).alloc (Nat.le_refl _) _
  have k0 : wB.cell? ⟨w.heap.size, 0, none⟩ = some (.int .i64 m) := (hbB.cell (p := ⟨w.heap.size, 0, none⟩) hl0).trans (by simp [World.cell?, hh0])
  have kf : wB.frozen? ⟨w.heap.size, 0, none⟩ = false := (World.frozen?_of_block (a := ⟨w.heap.size, 0, none⟩) (hbB.block _ hl0)).trans (frozen_new hh0 0)
  have k1 : wB.cell? ⟨w1.heap.size, 0, none⟩ = some (.slice (some ⟨g, 0, none⟩) (S + 13) cap) := by rw [← hwB, World.cell?_alloc_at _ _ _ _ rfl]; rfl
  have kg : ∀ j, j < S + 13 → wB.cell? ⟨g, 0 + j, none⟩ = some (.int .i64 ((trl (uw h) L j : Nat) : Int)) := fun j hj => by
    have := hsg j (by rw [row_len]; exact hj)
    rw [row_get _ _ _ _ hj] at this
    exact (hbB.cell (p := ⟨g, 0 + j, none⟩) hlg).trans this
  have kb : Below w.heap.size w wB := hbw.trans (hbB.mono hbw.size)
  rw [hsz0] at hgg
  have HB : Hid (∀ u, (wB.setCell ⟨w.heap.size, 0, none⟩ u).cell? ⟨w1.heap.size, 0, none⟩ = some (.slice (some ⟨g, 0, none⟩) (S + 13) cap)) := fun u => cell_put_ne k1 (by omega)
  have HG : Hid (∀ u j, j < S + 13 → (wB.setCell ⟨w.heap.size, 0, none⟩ u).cell? ⟨g, 0 + j, none⟩ = some (.int .i64 ((trl (uw h) L j : Nat) : Int))) := fun u j hj => by
    rw [World.cell?_setCell_other _ _ _ _ (by intro he; injection he with h1 h2; omega)]; exact kg j hj
  have HGB : Hid (∀ j, j < S + 13 → wB.cell? ⟨g, 0 + j, none⟩ = some (.int .i64 ((trl (uw h) L j : Nat) : Int))) := kg
  have HKB : Hid (Below w.heap.size w wB) := kb
  clear C1 hI hb1 hpl hsg hsz0 hbw hh0 hbB kg kb hlg
  go_upto_region 4 with fail
  obtain ⟨B, hBB⟩ : ∃ B, w1.heap.size = B := ⟨_, rfl⟩
  rw [hBB] at k1 HB ⊢
  clear hwB hl0 hBB
  by_cases hm : m < 1
  case' pos =>
    go_upto_region 6 with fail
    have HC : Hid (1 ≤ 1 ∧ (wB.setCell ⟨w.heap.size, 0, none⟩ (.int .i64 1)).cell? ⟨w.heap.size, 0, none⟩ = some (.int .i64 ((1 : Nat) : Int)) ∧ (wB.setCell ⟨w.heap.size, 0, none⟩ (.int .i64 1)).cell? ⟨B, 0, none⟩ = some (.slice (some ⟨g, 0, none⟩) (S + 13) cap) ∧ (∀ j, j < S + 13 → (wB.setCell ⟨w.heap.size, 0, none⟩ (.int .i64 1)).cell? ⟨g, 0 + j, none⟩ = some (.int .i64 ((trl (uw h) L j : Nat) : Int))) ∧ Below w.heap.size w (wB.setCell ⟨w.heap.size, 0, none⟩ (.int .i64 1))) :=
      ⟨Nat.le_refl _, cell_put_same k0, HB.out _, HG.out _, HKB.out.setCell (p := ⟨w.heap.size, 0, none⟩) (Nat.le_refl _) _⟩
    clear k0 k1 kf HB HG HGB HKB hm
    generalize World.setCell _ _ _ = wC at HC ⊢
    obtain ⟨T, HC⟩ : ∃ T : Nat, Hid (1 ≤ T ∧ wC.cell? ⟨w.heap.size, 0, none⟩ = some (.int .i64 (T : Int)) ∧ wC.cell? ⟨B, 0, none⟩ = some (.slice (some ⟨g, 0, none⟩) (S + 13) cap) ∧ (∀ j, j < S + 13 → wC.cell? ⟨g, 0 + j, none⟩ = some (.int .i64 ((trl (uw h) L j : Nat) : Int))) ∧ Below w.heap.size w wC) := ⟨1, HC⟩
  case' neg =>
    go_upto_region 6 with fail
    obtain ⟨T, hT1⟩ : ∃ T : Nat, m = (T : Int) := ⟨m.toNat, by omega⟩
    have HC : Hid (1 ≤ T ∧ wB.cell? ⟨w.heap.size, 0, none⟩ = some (.int .i64 (T : Int)) ∧ wB.cell? ⟨B, 0, none⟩ = some (.slice (some ⟨g, 0, none⟩) (S + 13) cap) ∧ (∀ j, j < S + 13 → wB.cell? ⟨g, 0 + j, none⟩ = some (.int .i64 ((trl (uw h) L j : Nat) : Int))) ∧ Below w.heap.size w wB) :=
      ⟨by omega, by rw [← hT1]; exact k0, k1, HGB.out, HKB.out⟩
    clear k0 k1 kf HB HG HGB HKB hm hT1
    generalize wB = wC at HC ⊢
  all_goals
    have CA := all_new h (L : Int) wC
    go_wp2_with fail
    refine CA.mono ?_
    rintro e w2 ⟨rfl, hw2⟩
    obtain ⟨hT, q0, q1, q2, q3⟩ := HC.out
    obtain ⟨hX, hbD, hsD⟩ := ctx_new q0 q1 q2 hcap (by omega) _ rfl
    rw [← hw2] at hX hbD hsD
    have hs2 : Hid (w2.heap.size = wC.heap.size + 2) := by show _ = _; rw [hw2]; simp
    have c5 := hX.i
    have hB5 := q3.trans (hbD.mono q3.size)
    obtain ⟨C, hCC⟩ : ∃ C, wC.heap.size = C := ⟨_, rfl⟩
    rw [hCC] at hX hbD hsD hs2 c5 hB5 ⊢
    clear CA HC q0 q1 q2 q3 hw2
    generalize hwD : w2.alloc (.cells #[.func (.func 22) #[] #[.pointer (some ⟨C + 1, 0, none⟩), .pointer (some ⟨C, 0, none⟩)]] 32) = wD at hX hbD hsD c5 hB5
    go_upto_region 7 with fail
    rw [hs2.out]
    clear hwD hs2 hCC
    have HB5 := Lib.hid hB5
    have HX := Lib.hid hX
    have HSD := Lib.hid hsD
    clear hB5 hbD hsD hX
    go_wp2_with fail
    go_loopw [9] (fun tv wr => ∃ t : Nat, t ≤ 2 ∧ tv = .int .i64 (t : Int) ∧ Below wD.heap.size wD wr) (fun tv _ => 2 - (intOf tv).toNat)
    case atStart => exact ⟨0, by omega, rfl, Below.refl _ _⟩
    case round =>
      obtain ⟨t, ht, rfl, hBr⟩ := hrel
      by_cases hlt : t < 2
      · have t1 : (t : Int) < 2 := by omega
        have hCr := (HX.out.below (hBr.mono (by rw [HSD.out]; omega)) (M := wr.heap.size) (by have := hBr.size; rw [HSD.out] at this; exact this))
        have CT := turn_any HS.out hCr hT
        have c6 : (three wr).cell? ⟨C + 2, 0, none⟩ = some (.func (.func 22) #[] #[.pointer (some ⟨C + 1, 0, none⟩), .pointer (some ⟨C, 0, none⟩)]) := ((three_below wr).cell (p := ⟨C + 2, 0, none⟩) hCr.lt.2.2.2.2.1).trans hCr.i
        unfold three at CT c6
        have HCR := Lib.hid hCr
        clear hCr c5
        go_wp2_with fail
        refine CT.mono ?_
        rintro e W2 ⟨rfl, n, ov, hTst, hn⟩
        have d0 := hTst.n
        have d1 := hTst.o
        have d2 : W2.cell? ⟨w.heap.size, 0, none⟩ = some (.int .i64 (T : Int)) := (hTst.b.cell (p := ⟨w.heap.size, 0, none⟩) HCR.out.lt.1).trans HCR.out.s
        have d3 : W2.cell? ⟨B, 0, none⟩ = some (.slice (some ⟨g, 0, none⟩) (S + 13) cap) := (hTst.b.cell (p := ⟨B, 0, none⟩) HCR.out.lt.2.1).trans HCR.out.w
        have hBW := Lib.hid (hBr.trans (hTst.b.mono hBr.size))
        clear CT c6 hTst
        rcases hn with rfl | ⟨hn1, rfl⟩
        case' inl => have x1 : ((n : Int) != (n : Int)) = false := by simp
        case' inr =>
          have x1 : (((S + 13 : Nat) : Int) != (T : Int)) = true := by simp; omega
          have x2 : (((S + 13 : Nat) : Int) != (S : Int) + 13) = false := by simp
        all_goals
          go_wp2_with fail
          exact ⟨⟨t + 1, by omega, by go_num, hBW.out⟩, by simp [intOf]; omega⟩
      · have t1 : ¬ (t : Int) < 2 := by omega
        go_wp2_with fail
        refine (awake_any _).mono ?_
        rintro e w4 ⟨rfl, hb4⟩
        have hb6 := HB5.out.trans (hBr.mono HB5.out.size)
        replace hb6 := hb6.trans (hb4.mono hb6.size)
        clear hb4
        go_wp2
        go_ret
        exact ⟨rfl, hb6⟩
set_option maxRecDepth 100000 in
theorem stopsLaw_walk (h l m : Int) (w : World) :
    Calls Try.prog 4 #[.int .i64 h, .int .i64 l, .int .i64 m] w fun e w' => e = .returned (.bool true) ∧ Below w.heap.size w w' := by
  by_cases hl : 0 ≤ l ∧ l ≤ 10
  · obtain ⟨L, rfl⟩ : ∃ L : Nat, l = (L : Int) := ⟨l.toNat, by omega⟩
    exact stopsLaw_near h m ⟨rfl, by omega⟩ (by omega) w
  · have hb : Below w.heap.size w (w.alloc (.cells #[.int .i64 m] 3)) := (Below.refl _ w).alloc (Nat.le_refl _) _
    go_enter Try.func4, Try.ntmps4
    by_cases i3 : l < 0
    case' neg => have i4 : 10 < l := by omega
    all_goals
      clear hl
      go_wp2_with fail
      refine (awake_any _).mono ?_
      rintro e w4 ⟨rfl, hb4⟩
      have hb6 := hb.trans (hb4.mono hb.size)
      clear hb4
      go_wp2
      go_ret
      exact ⟨rfl, hb6⟩
end Go.Proofs.Ytddgkdjpklegnaa
