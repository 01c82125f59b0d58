/-
  The document's Next of a walk that goes on.
-/
import Derived.Test.YtejfmajbggmghaaGreatSpN
namespace Go.Proofs.YtejfmajbggmghaaGreat
open Go.RowKit Go.WideShapes

/-- What it tells, and leaves. -/
def Rn9 (w : World) (d k : Nat) (t : Tb) (back begun : Bool) (last told : Int) (e : Ending) (w' : World) : Prop :=
  ∃ x yb, FdV back t.es told x yb ∧ e = .returned (.tuple #[if yb = true then eV x else eV En.zero, .int .i64 (if yb = true then 0 else 10)]) ∧ Blk w' k 6 (if yb = true then rsF d (t.live : Int) back x.birth true 0 else rsF d (t.live : Int) back last begun 10) ∧ Ex (fun i => i = k) w w'
set_option maxRecDepth 100000 in
set_option maxHeartbeats 4000000 in
theorem rnext9_go {w : World} {d g q : Nat} {ev : Value} {t : Tb} {mv : Value} {most : Int} {v : Nat} (hR : Rdc w d g q ev t mv most v) (hlen : t.es.length ≤ 100000) (hb : t.Born) (hbi : t.births ≤ 100000) {k : Nat} {back begun : Bool} {last told : Int} (hK : Blk w k 6 (rsF d (t.live : Int) back last begun 0)) (hL : Lk back told last begun) :
    Calls Tryz.prog 18 #[.pointer (some ⟨k, 0, none⟩)] w fun e w' => Rn9 w d k t back begun last told e w' := by
  obtain ⟨w1, hw1⟩ : ∃ y, w.alloc (.cells #[.bool false, .int .i64 0, .int .i64 0, .int .i64 0, .int .i64 0] 48) = y := ⟨_, rfl⟩
  obtain ⟨hX1, hB1, hs1⟩ := en_new w hw1
  have lk := hK.lt (by omega)
  have hK1 := hK.of hB1 (by omega)
  have k5 : w1.cell? ⟨k, 5, none⟩ = some (.int .i64 0) := hK1.c 5 (by omega)
  have k0 : w1.drew.cell? ⟨k, 0, none⟩ = some (.pointer (some ⟨d, 0, none⟩)) := hK1.c 0 (by omega)
  have k1 : w1.drew.cell? ⟨k, 1, none⟩ = some (.int .i64 (t.live : Int)) := hK1.c 1 (by omega)
  have hRd := hR.below hB1.drew
  have C2 := rplen_any hRd
  have C3 := rlive0 (hRd.rt.hd.c 0 (by omega)) hRd.rt.es (by rw [Tb.sh_len]; exact hlen)
  have c2 : w1.drew.cell? ⟨d, 2, none⟩ = some (.pointer (some ⟨g, 0, none⟩)) := hRd.hd.c 2 (by omega)
  have e0 : liveL t.sh.es = liveL t.es := liveL_sh t.es
  rw [e0] at C3
  have hXd : Blk w1.drew w.heap.size 5 eZ := Blk.same hX1 rfl
  have hKd : Blk w1.drew k 6 (rsF d (t.live : Int) back last begun 0) := Blk.same hK1 rfl
  have HXd := Lib.hid hXd
  have HKd := Lib.hid hKd
  have HBd := Lib.hid hB1.drew
  have HW := Lib.hid hw1
  have hll : (liveL t.es).length ≤ 100000 := by have := liveL_len t.es; omega
  have hsz : w1.drew.heap.size = w.heap.size + 1 := hs1
  have HB := Lib.hid hb
  have HL := Lib.hid hL
  clear hw1 hX1 hB1 hR hRd hXd hKd hK1 hK hs1 e0 hb hL
  go_enter Tryz.func18, Tryz.ntmps18
  go_upto_region 1 with fail
  rw [HW.out]
  have t2 : ((t.live : Int) != (t.live : Int)) = false := by simp
  generalize hTL : (t.live : Int) = tl at *
  go_wp2_with fail
  go_region_held3 (fun V => V.cell? ⟨k, 0, none⟩ = some (.pointer (some ⟨d, 0, none⟩)) ∧ V.cell? ⟨k, 1, none⟩ = some (.int .i64 tl))
    (first | with_reducible exact ⟨k0, k1⟩ | fail)
    (first | (go_at_call 40; refine C2.mono ?_; rintro e w8 ⟨rfl, rfl⟩) | fail)
  clear k1 k5 C2 t2
  generalize w1.drew = wd at *
  go_wp2_with fail
  refine C3.mono ?_
  rintro e w2 ⟨v2, rfl, hE, hB2⟩
  clear C3 k0 c2
  obtain ⟨ae, cape, ge, rfl, hpe, hro⟩ := hE.es.open
  have hgw : 0 < (liveL t.es).length → ge < w2.heap.size := fun h => hE.es.lt ge (hpe h).2.1
  have hpe2 : 0 < (liveL t.es).length → ae = some ⟨ge, 0, none⟩ := fun h => (hpe h).1
  have hKw := HKd.out.of hB2 (by omega)
  have hXw := HXd.out.of hB2 (by omega)
  have hBw := HBd.out.trans (hB2.mono HBd.out.size)
  have HRO := Lib.hid hro
  have HKW := Lib.hid hKw
  have HXW := Lib.hid hXw
  have HBW := Lib.hid hBw
  have k2 : w2.cell? ⟨k, 2, none⟩ = some (.bool back) := hKw.c 2 (by omega)
  have hl2 : w.heap.size + 1 ≤ w2.heap.size := by have := hB2.size; omega
  clear hE hro hpe hKw hXw hBw HXd HKd HBd hB2
  have HEND : Hid (∀ wr : World, Below w2.heap.size w2 wr → FdV back t.es told En.zero false → ∃ w3, wr.setCell ⟨k, 5, none⟩ (.int .i64 10) = w3 ∧ Blk wr k 6 (rsF d tl back last begun 0) ∧ Blk w3 w.heap.size 5 eZ ∧ Rn9 w d k t back begun last told (.returned (.tuple #[eV En.zero, .int .i64 10])) (put5 w3 w.heap.size (.bool false) (.int .i64 0) (.int .i64 0) (.int .i64 0) (.int .i64 0)) ∧ Blk (put5 w3 w.heap.size (.bool false) (.int .i64 0) (.int .i64 0) (.int .i64 0) (.int .i64 0)) w.heap.size 5 (fun j => [Value.bool false, .int .i64 0, .int .i64 0, .int .i64 0, .int .i64 0].getD j .nilFunc)) := fun wr hb hf => by
    have h1 := HKW.out.of hb (by omega)
    have h2 := HXW.out.of hb (by omega)
    have h3 : Blk (wr.setCell ⟨k, 5, none⟩ (.int .i64 10)) w.heap.size 5 eZ := h2.same (Below.heap_setCell _ _ _ _ (by show w.heap.size ≠ k; omega))
    have h4 : Blk (wr.setCell ⟨k, 5, none⟩ (.int .i64 10)) k 6 (rsF d tl back last begun 10) := (h1.put 5 _).congr fun j hj => by rcases lt6 hj with rfl | rfl | rfl | rfl | rfl | rfl <;> rfl
    have h50 : Ex (fun i => i = k) w wr := ex_of (HBW.out.trans (hb.mono HBW.out.size))
    have h5 : Ex (fun i => i = k) w (wr.setCell ⟨k, 5, none⟩ (.int .i64 10)) := h50.setCell (p := ⟨k, 5, none⟩) (fun _ => rfl) _
    refine ⟨_, rfl, h1, h3, ⟨En.zero, false, hf, rfl, ?_, ?_⟩, put5_blk h3 _ _ _ _ _⟩
    · rw [if_neg (by decide), hTL]
      exact h4.same (put5_other _ _ _ _ _ _ _ k (by omega))
    · exact put5_ex h5 _ (fun h => absurd h (Nat.lt_irrefl _)) _ _ _ _ _
  have HTEL : Hid (∀ wr : World, Below w2.heap.size w2 wr → ∀ (x0 : Bool) (x1 x2 x3 x4 : Int), FdV back t.es told ⟨x0, x1, x2, x3, x4⟩ true → ∀ w3, Blk w3 k 6 (tlF (rsF d tl back last begun 0) x4) → Ex (fun i => i = k) wr w3 → Blk w3 w.heap.size 5 eZ ∧ Rn9 w d k t back begun last told (.returned (.tuple #[.agg #[.bool x0, .int .i64 x1, .int .i64 x2, .int .i64 x3, .int .i64 x4], .int .i64 0])) (put5 w3 w.heap.size (.bool x0) (.int .i64 x1) (.int .i64 x2) (.int .i64 x3) (.int .i64 x4)) ∧ Blk (put5 w3 w.heap.size (.bool x0) (.int .i64 x1) (.int .i64 x2) (.int .i64 x3) (.int .i64 x4)) w.heap.size 5 (fun j => [Value.bool x0, .int .i64 x1, .int .i64 x2, .int .i64 x3, .int .i64 x4].getD j .nilFunc)) := fun wr hb x0 x1 x2 x3 x4 hf w3 hk hx => by
    have h2 := HXW.out.of hb (by omega)
    have h3 : Blk w3 w.heap.size 5 eZ := h2.same (hx.block _ (h2.lt (by omega)) (by show w.heap.size ≠ k; omega))
    have h50 : Ex (fun i => i = k) w wr := ex_of (HBW.out.trans (hb.mono HBW.out.size))
    have h5 : Ex (fun i => i = k) w w3 := h50.trans hx
    refine ⟨h3, ⟨⟨x0, x1, x2, x3, x4⟩, true, hf, rfl, ?_, ?_⟩, put5_blk h3 _ _ _ _ _⟩
    · rw [if_pos rfl, hTL]
      refine (hk.same (put5_other _ _ _ _ _ _ _ k (by omega))).congr fun j hj => ?_
      rcases lt6 hj with rfl | rfl | rfl | rfl | rfl | rfl <;> rfl
    · exact put5_ex h5 _ (fun h => absurd h (Nat.lt_irrefl _)) _ _ _ _ _
  unfold put5 at HEND HTEL
  generalize hN : (liveL t.es).length = n at *
  cases back with
  | true =>
    have en : IntKind.i64.wrap ((n : Int) - 1) = (n : Int) - 1 := i64_small (by omega) (by omega)
    go_wp2_with fail
    go_loopw [5] (fun iv wr => ∃ i : Nat, i ≤ n ∧ iv = .int .i64 ((i : Int) - 1) ∧ (∀ j, i ≤ j → j < n → ¬ tst true begun last (nth (liveL t.es) j)) ∧ Below w2.heap.size w2 wr) (fun iv _ => (intOf iv + 1).toNat)
    case atStart => exact ⟨n, Nat.le_refl _, rfl, fun j h1 h2 => by omega, Below.refl _ _⟩
    case round =>
      clear en
      obtain ⟨i, hi, rfl, hn, hB⟩ := hrel
      have HN := Lib.hid hn
      clear hn
      rcases i with _ | m
      · have hf : FdV true t.es told En.zero false := fdV_off' HB.out hbi HL.out fun j h => HN.out j (Nat.zero_le _) (by rw [hN] at h; exact h)
        have t1 : ¬ (0 : Int) ≤ (((0 : Nat) : Int) - 1) := by omega
        have HF := Lib.hid hf
        have hBq := hB
        obtain ⟨w3, hw3, hKr, hZ, hRn, hBn⟩ := HEND.out wr hBq HF.out
        have k5 := hKr.c 5 (by omega)
        have q5 := hKr.z 5
        have HRn := Lib.hid hRn
        have HBn := Lib.hid hBn
        have HW3 := Lib.hid hw3
        have a0 := hZ.c 0 (by omega)
        have a1 := hZ.c 1 (by omega)
        have a2 := hZ.c 2 (by omega)
        have a3 := hZ.c 3 (by omega)
        have a4 := hZ.c 4 (by omega)
        have z0 := hZ.z 0
        have z1 := hZ.z 1
        have z2 := hZ.z 2
        have z3 := hZ.z 3
        have z4 := hZ.z 4
        clear hf hB hBq hKr hZ hRn hBn hw3 HTEL
        go_upto_region 19 with fail
        rw [HW3.out]
        go_wp2_with fail
        generalize World.setCell (World.setCell (World.setCell (World.setCell (World.setCell w3 _ _) _ _) _ _) _ _) _ _ = w5 at *
        have o0 : w5.cell? ⟨w.heap.size, 0, none⟩ = some (.bool false) := HBn.out.c 0 (by omega)
        have o1 : w5.cell? ⟨w.heap.size, 1, none⟩ = some (.int .i64 0) := HBn.out.c 1 (by omega)
        have o2 : w5.cell? ⟨w.heap.size, 2, none⟩ = some (.int .i64 0) := HBn.out.c 2 (by omega)
        have o3 : w5.cell? ⟨w.heap.size, 3, none⟩ = some (.int .i64 0) := HBn.out.c 3 (by omega)
        have o4 : w5.cell? ⟨w.heap.size, 4, none⟩ = some (.int .i64 0) := HBn.out.c 4 (by omega)
        refine bodyPost_ret (v := .tuple #[.agg #[.bool false, .int .i64 0, .int .i64 0, .int .i64 0, .int .i64 0], .int .i64 10]) ?_ rfl HRn.out
        simp [results, Tryz.results18, go_sem, o0, o1, o2, o3, o4]

      · have hlt : m < n := by omega
        have e1 : (((m + 1 : Nat) : Int) - 1) = (m : Int) := by omega
        rw [e1]
        have t1 : (0 : Int) ≤ (m : Int) := by omega
        have t2 : (m : Int) < (n : Int) := by omega
        obtain rfl := hpe2 (by omega)
        have lge := hgw (by omega)
        have key : ∀ o, wr.cell? ⟨ge, o, none⟩ = w2.cell? ⟨ge, o, none⟩ := fun o => hB.cell (p := ⟨ge, o, none⟩) lge
        have d0 := (key _).trans (HRO.out.c0 m hlt)
        have d1 := (key _).trans (HRO.out.c1 m hlt)
        have d2 := (key _).trans (HRO.out.c2 m hlt)
        have d3 := (key _).trans (HRO.out.c3 m hlt)
        have d4 := (key _).trans (HRO.out.c4 m hlt)
        clear key
        obtain ⟨x, hx⟩ : ∃ x, nth (liveL t.es) m = x := ⟨_, rfl⟩
        rw [hx] at d0 d1 d2 d3 d4
        have HXE := Lib.hid hx
        clear hx
        obtain ⟨x0, x1, x2, x3, x4⟩ := x
        simp only at d0 d1 d2 d3 d4
        have hKr := HKW.out.of hB (by omega)
        have s0 : wr.drew.cell? ⟨k, 4, none⟩ = some (.bool begun) ∧ wr.drew.cell? ⟨k, 3, none⟩ = some (.int .i64 last) ∧ wr.drew.cell? ⟨ge, m * 5 + 4, none⟩ = some (.int .i64 x4) := ⟨hKr.c 4 (by omega), hKr.c 3 (by omega), d4⟩
        have kq4 : wr.cell? ⟨k, 4, none⟩ = some (.bool begun) := hKr.c 4 (by omega)
        have HQ : Hid (∀ V : World, V.heap = wr.heap → V.os = wr.os → V.tape = wr.tape → V.output = wr.output → Below w2.heap.size w2 V ∧ (V.cell? ⟨ge, m * 5, none⟩ = some (.bool x0) ∧ V.cell? ⟨ge, m * 5 + 1, none⟩ = some (.int .i64 x1) ∧ V.cell? ⟨ge, m * 5 + 2, none⟩ = some (.int .i64 x2) ∧ V.cell? ⟨ge, m * 5 + 3, none⟩ = some (.int .i64 x3) ∧ V.cell? ⟨ge, m * 5 + 4, none⟩ = some (.int .i64 x4)) ∧ Calls Tryz.prog 42 #[.pointer (some ⟨k, 0, none⟩), .agg #[.bool x0, .int .i64 x1, .int .i64 x2, .int .i64 x3, .int .i64 x4]] V fun e w' => e = .returned (.tuple #[.agg #[.bool x0, .int .i64 x1, .int .i64 x2, .int .i64 x3, .int .i64 x4], .int .i64 0]) ∧ Blk w' k 6 (tlF (rsF d tl true last begun 0) x4) ∧ Ex (fun i => i = k) V w') := fun V e1 e2 e3 e4 => by
          have hbV : Below w2.heap.size w2 V := ⟨e2.trans hB.os, e3.trans hB.tape, e4.trans hB.output, by rw [e1]; exact hB.size, fun i hi => by rw [e1]; exact hB.block i hi⟩
          have kv : ∀ o, V.cell? ⟨ge, o, none⟩ = wr.cell? ⟨ge, o, none⟩ := fun o => World.cell?_of_block (a := ⟨ge, o, none⟩) (by rw [e1])
          exact ⟨hbV, ⟨(kv _).trans d0, (kv _).trans d1, (kv _).trans d2, (kv _).trans d3, (kv _).trans d4⟩, rtells (w := V) (HKW.out.of hbV (by omega)) x0 x1 x2 x3 x4⟩
        have HBd : Hid (Below w2.heap.size w2 wr.drew) := hB.drew
        clear d0 d1 d2 d3 d4 hKr hB
        cases hbg : begun with
        | false =>
          rw [hbg] at kq4
          have hts : tst true begun last ⟨x0, x1, x2, x3, x4⟩ := .inl hbg
          clear s0
          go_upto_region 11 with fail
          go_quiet (fail)
          obtain ⟨wq, hwq⟩ : ∃ y, wr.drewN nq = y := ⟨_, rfl⟩
          obtain ⟨hbq, ⟨g0, g1, g2, g3, g4⟩, CT⟩ := HQ.out wq (by rw [← hwq]; rfl) (by rw [← hwq]; rfl) (by rw [← hwq]; rfl) (by rw [← hwq]; rfl)
          rw [hwq]
          clear kq4 hwq HQ
          have hf : FdV true t.es told ⟨x0, x1, x2, x3, x4⟩ true := by
            have h := fdV_on' HB.out hbi HL.out (i := m) (by rw [hN]; exact hlt) (fun j h1 h2 => HN.out j (by omega) (by rw [hN] at h2; exact h2)) (by rw [HXE.out]; exact hts)
            rw [HXE.out] at h
            exact h
          have HF := Lib.hid hf
          clear hf hts
          go_wp2_with fail
          refine CT.mono ?_
          rintro e w3 ⟨rfl, hk3, hx3⟩
          clear CT
          obtain ⟨hZ, hRn, hBn⟩ := HTEL.out wq hbq x0 x1 x2 x3 x4 HF.out w3 hk3 hx3
          have HRn := Lib.hid hRn
          have HBn := Lib.hid hBn
          have a0 := hZ.c 0 (by omega)
          have a1 := hZ.c 1 (by omega)
          have a2 := hZ.c 2 (by omega)
          have a3 := hZ.c 3 (by omega)
          have a4 := hZ.c 4 (by omega)
          have z0 := hZ.z 0
          have z1 := hZ.z 1
          have z2 := hZ.z 2
          have z3 := hZ.z 3
          have z4 := hZ.z 4
          clear hRn hBn hZ hk3 hx3 g0 g1 g2 g3 g4
          go_wp2_with fail
          generalize World.setCell (World.setCell (World.setCell (World.setCell (World.setCell w3 _ _) _ _) _ _) _ _) _ _ = w5 at *
          have o0 : w5.cell? ⟨w.heap.size, 0, none⟩ = some (.bool x0) := HBn.out.c 0 (by omega)
          have o1 : w5.cell? ⟨w.heap.size, 1, none⟩ = some (.int .i64 x1) := HBn.out.c 1 (by omega)
          have o2 : w5.cell? ⟨w.heap.size, 2, none⟩ = some (.int .i64 x2) := HBn.out.c 2 (by omega)
          have o3 : w5.cell? ⟨w.heap.size, 3, none⟩ = some (.int .i64 x3) := HBn.out.c 3 (by omega)
          have o4 : w5.cell? ⟨w.heap.size, 4, none⟩ = some (.int .i64 x4) := HBn.out.c 4 (by omega)
          refine bodyPost_ret (v := .tuple #[.agg #[.bool x0, .int .i64 x1, .int .i64 x2, .int .i64 x3, .int .i64 x4], .int .i64 0]) ?_ rfl HRn.out
          simp [results, Tryz.results18, go_sem, o0, o1, o2, o3, o4]
        | true =>
          rw [hbg] at s0
          clear kq4
          by_cases hlt2 : x4 < last
          case pos =>
            have hts : tst true begun last ⟨x0, x1, x2, x3, x4⟩ := .inr (by simp only [if_true]; exact hlt2)
            go_upto_region 11 with fail
            go_region_held3 (fun V => V.cell? ⟨k, 4, none⟩ = some (.bool true) ∧ V.cell? ⟨k, 3, none⟩ = some (.int .i64 last) ∧ V.cell? ⟨ge, m * 5 + 4, none⟩ = some (.int .i64 x4)) (first | with_reducible exact s0 | fail) (fail)
            obtain ⟨wq, hwq⟩ : ∃ y, wr.drew = y := ⟨_, rfl⟩
            obtain ⟨hbq, ⟨g0, g1, g2, g3, g4⟩, CT⟩ := HQ.out wq (by rw [← hwq]; rfl) (by rw [← hwq]; rfl) (by rw [← hwq]; rfl) (by rw [← hwq]; rfl)
            rw [hwq]
            clear s0 hwq HQ
            have hf : FdV true t.es told ⟨x0, x1, x2, x3, x4⟩ true := by
              have h := fdV_on' HB.out hbi HL.out (i := m) (by rw [hN]; exact hlt) (fun j h1 h2 => HN.out j (by omega) (by rw [hN] at h2; exact h2)) (by rw [HXE.out]; exact hts)
              rw [HXE.out] at h
              exact h
            have HF := Lib.hid hf
            clear hf hts
            go_wp2_with fail
            refine CT.mono ?_
            rintro e w3 ⟨rfl, hk3, hx3⟩
            clear CT
            obtain ⟨hZ, hRn, hBn⟩ := HTEL.out wq hbq x0 x1 x2 x3 x4 HF.out w3 hk3 hx3
            have HRn := Lib.hid hRn
            have HBn := Lib.hid hBn
            have a0 := hZ.c 0 (by omega)
            have a1 := hZ.c 1 (by omega)
            have a2 := hZ.c 2 (by omega)
            have a3 := hZ.c 3 (by omega)
            have a4 := hZ.c 4 (by omega)
            have z0 := hZ.z 0
            have z1 := hZ.z 1
            have z2 := hZ.z 2
            have z3 := hZ.z 3
            have z4 := hZ.z 4
            clear hRn hBn hZ hk3 hx3 g0 g1 g2 g3 g4
            go_wp2_with fail
            generalize World.setCell (World.setCell (World.setCell (World.setCell (World.setCell w3 _ _) _ _) _ _) _ _) _ _ = w5 at *
            have o0 : w5.cell? ⟨w.heap.size, 0, none⟩ = some (.bool x0) := HBn.out.c 0 (by omega)
            have o1 : w5.cell? ⟨w.heap.size, 1, none⟩ = some (.int .i64 x1) := HBn.out.c 1 (by omega)
            have o2 : w5.cell? ⟨w.heap.size, 2, none⟩ = some (.int .i64 x2) := HBn.out.c 2 (by omega)
            have o3 : w5.cell? ⟨w.heap.size, 3, none⟩ = some (.int .i64 x3) := HBn.out.c 3 (by omega)
            have o4 : w5.cell? ⟨w.heap.size, 4, none⟩ = some (.int .i64 x4) := HBn.out.c 4 (by omega)
            refine bodyPost_ret (v := .tuple #[.agg #[.bool x0, .int .i64 x1, .int .i64 x2, .int .i64 x3, .int .i64 x4], .int .i64 0]) ?_ rfl HRn.out
            simp [results, Tryz.results18, go_sem, o0, o1, o2, o3, o4]
          case neg =>
            have hts : ¬ tst true begun last ⟨x0, x1, x2, x3, x4⟩ := fun h => h.elim (fun y => by rw [hbg] at y; cases y) (fun y => by simp only [if_true] at y; exact hlt2 y)
            go_upto_region 11 with fail
            go_region_held3 (fun V => V.cell? ⟨k, 4, none⟩ = some (.bool true) ∧ V.cell? ⟨k, 3, none⟩ = some (.int .i64 last) ∧ V.cell? ⟨ge, m * 5 + 4, none⟩ = some (.int .i64 x4)) (first | with_reducible exact s0 | fail) (fail)
            clear s0 HQ
            have hnn := HN.out
            rw [hbg] at hnn hts
            have HNN := Lib.hid hnn
            have HTS := Lib.hid hts
            clear hnn hts
            go_wp2_with fail
            go_roundw
            case rel => exact ⟨m, by omega, by go_num, fun j h1 h2 => (Nat.lt_or_ge m j).elim (fun y => HNN.out j (by omega) h2) (fun y => by rw [show j = m by omega, HXE.out]; exact HTS.out), HBd.out⟩
            case measure => simp [intOf] <;> omega
  | false =>
    go_wp2_with fail
    go_loopw [6] (fun iv wr => ∃ i : Nat, i ≤ n ∧ iv = .int .i64 (i : Int) ∧ (∀ j, j < i → ¬ tst false begun last (nth (liveL t.es) j)) ∧ Below w2.heap.size w2 wr) (fun iv _ => n - (intOf iv).toNat)
    case atStart => exact ⟨0, Nat.zero_le _, rfl, fun j h => absurd h (Nat.not_lt_zero _), Below.refl _ _⟩
    case round =>
      obtain ⟨m, hm, rfl, hn, hB⟩ := hrel
      have HN := Lib.hid hn
      clear hn
      by_cases hlt : m < n
      case neg =>
        obtain rfl : m = n := by omega
        have hf : FdV false t.es told En.zero false := fdV_off HB.out hbi HL.out fun j h => HN.out j (by rw [hN] at h; exact h)
        have t1 : ¬ (m : Int) < (m : Int) := by omega
        have HF := Lib.hid hf
        have hBq := hB
        obtain ⟨w3, hw3, hKr, hZ, hRn, hBn⟩ := HEND.out wr hBq HF.out
        have k5 := hKr.c 5 (by omega)
        have q5 := hKr.z 5
        have HRn := Lib.hid hRn
        have HBn := Lib.hid hBn
        have HW3 := Lib.hid hw3
        have a0 := hZ.c 0 (by omega)
        have a1 := hZ.c 1 (by omega)
        have a2 := hZ.c 2 (by omega)
        have a3 := hZ.c 3 (by omega)
        have a4 := hZ.c 4 (by omega)
        have z0 := hZ.z 0
        have z1 := hZ.z 1
        have z2 := hZ.z 2
        have z3 := hZ.z 3
        have z4 := hZ.z 4
        clear hf hB hBq hKr hZ hRn hBn hw3 HTEL
        go_upto_region 19 with fail
        rw [HW3.out]
        go_wp2_with fail
        generalize World.setCell (World.setCell (World.setCell (World.setCell (World.setCell w3 _ _) _ _) _ _) _ _) _ _ = w5 at *
        have o0 : w5.cell? ⟨w.heap.size, 0, none⟩ = some (.bool false) := HBn.out.c 0 (by omega)
        have o1 : w5.cell? ⟨w.heap.size, 1, none⟩ = some (.int .i64 0) := HBn.out.c 1 (by omega)
        have o2 : w5.cell? ⟨w.heap.size, 2, none⟩ = some (.int .i64 0) := HBn.out.c 2 (by omega)
        have o3 : w5.cell? ⟨w.heap.size, 3, none⟩ = some (.int .i64 0) := HBn.out.c 3 (by omega)
        have o4 : w5.cell? ⟨w.heap.size, 4, none⟩ = some (.int .i64 0) := HBn.out.c 4 (by omega)
        refine bodyPost_ret (v := .tuple #[.agg #[.bool false, .int .i64 0, .int .i64 0, .int .i64 0, .int .i64 0], .int .i64 10]) ?_ rfl HRn.out
        simp [results, Tryz.results18, go_sem, o0, o1, o2, o3, o4]

      case pos =>
        have t1 : (m : Int) < (n : Int) := by omega
        obtain rfl := hpe2 (by omega)
        have lge := hgw (by omega)
        have key : ∀ o, wr.cell? ⟨ge, o, none⟩ = w2.cell? ⟨ge, o, none⟩ := fun o => hB.cell (p := ⟨ge, o, none⟩) lge
        have d0 := (key _).trans (HRO.out.c0 m hlt)
        have d1 := (key _).trans (HRO.out.c1 m hlt)
        have d2 := (key _).trans (HRO.out.c2 m hlt)
        have d3 := (key _).trans (HRO.out.c3 m hlt)
        have d4 := (key _).trans (HRO.out.c4 m hlt)
        clear key
        obtain ⟨x, hx⟩ : ∃ x, nth (liveL t.es) m = x := ⟨_, rfl⟩
        rw [hx] at d0 d1 d2 d3 d4
        have HXE := Lib.hid hx
        clear hx
        obtain ⟨x0, x1, x2, x3, x4⟩ := x
        simp only at d0 d1 d2 d3 d4
        have hKr := HKW.out.of hB (by omega)
        have s0 : wr.drew.cell? ⟨k, 4, none⟩ = some (.bool begun) ∧ wr.drew.cell? ⟨k, 3, none⟩ = some (.int .i64 last) ∧ wr.drew.cell? ⟨ge, m * 5 + 4, none⟩ = some (.int .i64 x4) := ⟨hKr.c 4 (by omega), hKr.c 3 (by omega), d4⟩
        have kq4 : wr.cell? ⟨k, 4, none⟩ = some (.bool begun) := hKr.c 4 (by omega)
        have HQ : Hid (∀ V : World, V.heap = wr.heap → V.os = wr.os → V.tape = wr.tape → V.output = wr.output → Below w2.heap.size w2 V ∧ (V.cell? ⟨ge, m * 5, none⟩ = some (.bool x0) ∧ V.cell? ⟨ge, m * 5 + 1, none⟩ = some (.int .i64 x1) ∧ V.cell? ⟨ge, m * 5 + 2, none⟩ = some (.int .i64 x2) ∧ V.cell? ⟨ge, m * 5 + 3, none⟩ = some (.int .i64 x3) ∧ V.cell? ⟨ge, m * 5 + 4, none⟩ = some (.int .i64 x4)) ∧ Calls Tryz.prog 42 #[.pointer (some ⟨k, 0, none⟩), .agg #[.bool x0, .int .i64 x1, .int .i64 x2, .int .i64 x3, .int .i64 x4]] V fun e w' => e = .returned (.tuple #[.agg #[.bool x0, .int .i64 x1, .int .i64 x2, .int .i64 x3, .int .i64 x4], .int .i64 0]) ∧ Blk w' k 6 (tlF (rsF d tl false last begun 0) x4) ∧ Ex (fun i => i = k) V w') := fun V e1 e2 e3 e4 => by
          have hbV : Below w2.heap.size w2 V := ⟨e2.trans hB.os, e3.trans hB.tape, e4.trans hB.output, by rw [e1]; exact hB.size, fun i hi => by rw [e1]; exact hB.block i hi⟩
          have kv : ∀ o, V.cell? ⟨ge, o, none⟩ = wr.cell? ⟨ge, o, none⟩ := fun o => World.cell?_of_block (a := ⟨ge, o, none⟩) (by rw [e1])
          exact ⟨hbV, ⟨(kv _).trans d0, (kv _).trans d1, (kv _).trans d2, (kv _).trans d3, (kv _).trans d4⟩, rtells (w := V) (HKW.out.of hbV (by omega)) x0 x1 x2 x3 x4⟩
        have HBd : Hid (Below w2.heap.size w2 wr.drew) := hB.drew
        clear d0 d1 d2 d3 d4 hKr hB
        cases hbg : begun with
        | false =>
          rw [hbg] at kq4
          have hts : tst false begun last ⟨x0, x1, x2, x3, x4⟩ := .inl hbg
          clear s0
          go_upto_region 16 with fail
          go_quiet (fail)
          obtain ⟨wq, hwq⟩ : ∃ y, wr.drewN nq = y := ⟨_, rfl⟩
          obtain ⟨hbq, ⟨g0, g1, g2, g3, g4⟩, CT⟩ := HQ.out wq (by rw [← hwq]; rfl) (by rw [← hwq]; rfl) (by rw [← hwq]; rfl) (by rw [← hwq]; rfl)
          rw [hwq]
          clear kq4 hwq HQ
          have hf : FdV false t.es told ⟨x0, x1, x2, x3, x4⟩ true := by
            have h := fdV_on HB.out hbi HL.out (i := m) (by rw [hN]; exact hlt) (fun j h1 => HN.out j h1) (by rw [HXE.out]; exact hts)
            rw [HXE.out] at h
            exact h
          have HF := Lib.hid hf
          clear hf hts
          go_wp2_with fail
          refine CT.mono ?_
          rintro e w3 ⟨rfl, hk3, hx3⟩
          clear CT
          obtain ⟨hZ, hRn, hBn⟩ := HTEL.out wq hbq x0 x1 x2 x3 x4 HF.out w3 hk3 hx3
          have HRn := Lib.hid hRn
          have HBn := Lib.hid hBn
          have a0 := hZ.c 0 (by omega)
          have a1 := hZ.c 1 (by omega)
          have a2 := hZ.c 2 (by omega)
          have a3 := hZ.c 3 (by omega)
          have a4 := hZ.c 4 (by omega)
          have z0 := hZ.z 0
          have z1 := hZ.z 1
          have z2 := hZ.z 2
          have z3 := hZ.z 3
          have z4 := hZ.z 4
          clear hRn hBn hZ hk3 hx3 g0 g1 g2 g3 g4
          go_wp2_with fail
          generalize World.setCell (World.setCell (World.setCell (World.setCell (World.setCell w3 _ _) _ _) _ _) _ _) _ _ = w5 at *
          have o0 : w5.cell? ⟨w.heap.size, 0, none⟩ = some (.bool x0) := HBn.out.c 0 (by omega)
          have o1 : w5.cell? ⟨w.heap.size, 1, none⟩ = some (.int .i64 x1) := HBn.out.c 1 (by omega)
          have o2 : w5.cell? ⟨w.heap.size, 2, none⟩ = some (.int .i64 x2) := HBn.out.c 2 (by omega)
          have o3 : w5.cell? ⟨w.heap.size, 3, none⟩ = some (.int .i64 x3) := HBn.out.c 3 (by omega)
          have o4 : w5.cell? ⟨w.heap.size, 4, none⟩ = some (.int .i64 x4) := HBn.out.c 4 (by omega)
          refine bodyPost_ret (v := .tuple #[.agg #[.bool x0, .int .i64 x1, .int .i64 x2, .int .i64 x3, .int .i64 x4], .int .i64 0]) ?_ rfl HRn.out
          simp [results, Tryz.results18, go_sem, o0, o1, o2, o3, o4]
        | true =>
          rw [hbg] at s0
          clear kq4
          by_cases hlt2 : last < x4
          case pos =>
            have hts : tst false begun last ⟨x0, x1, x2, x3, x4⟩ := .inr (by simp only [Bool.false_eq_true, if_false]; exact hlt2)
            go_upto_region 16 with fail
            go_region_held3 (fun V => V.cell? ⟨k, 4, none⟩ = some (.bool true) ∧ V.cell? ⟨k, 3, none⟩ = some (.int .i64 last) ∧ V.cell? ⟨ge, m * 5 + 4, none⟩ = some (.int .i64 x4)) (first | with_reducible exact s0 | fail) (fail)
            obtain ⟨wq, hwq⟩ : ∃ y, wr.drew = y := ⟨_, rfl⟩
            obtain ⟨hbq, ⟨g0, g1, g2, g3, g4⟩, CT⟩ := HQ.out wq (by rw [← hwq]; rfl) (by rw [← hwq]; rfl) (by rw [← hwq]; rfl) (by rw [← hwq]; rfl)
            rw [hwq]
            clear s0 hwq HQ
            have hf : FdV false t.es told ⟨x0, x1, x2, x3, x4⟩ true := by
              have h := fdV_on HB.out hbi HL.out (i := m) (by rw [hN]; exact hlt) (fun j h1 => HN.out j h1) (by rw [HXE.out]; exact hts)
              rw [HXE.out] at h
              exact h
            have HF := Lib.hid hf
            clear hf hts
            go_wp2_with fail
            refine CT.mono ?_
            rintro e w3 ⟨rfl, hk3, hx3⟩
            clear CT
            obtain ⟨hZ, hRn, hBn⟩ := HTEL.out wq hbq x0 x1 x2 x3 x4 HF.out w3 hk3 hx3
            have HRn := Lib.hid hRn
            have HBn := Lib.hid hBn
            have a0 := hZ.c 0 (by omega)
            have a1 := hZ.c 1 (by omega)
            have a2 := hZ.c 2 (by omega)
            have a3 := hZ.c 3 (by omega)
            have a4 := hZ.c 4 (by omega)
            have z0 := hZ.z 0
            have z1 := hZ.z 1
            have z2 := hZ.z 2
            have z3 := hZ.z 3
            have z4 := hZ.z 4
            clear hRn hBn hZ hk3 hx3 g0 g1 g2 g3 g4
            go_wp2_with fail
            generalize World.setCell (World.setCell (World.setCell (World.setCell (World.setCell w3 _ _) _ _) _ _) _ _) _ _ = w5 at *
            have o0 : w5.cell? ⟨w.heap.size, 0, none⟩ = some (.bool x0) := HBn.out.c 0 (by omega)
            have o1 : w5.cell? ⟨w.heap.size, 1, none⟩ = some (.int .i64 x1) := HBn.out.c 1 (by omega)
            have o2 : w5.cell? ⟨w.heap.size, 2, none⟩ = some (.int .i64 x2) := HBn.out.c 2 (by omega)
            have o3 : w5.cell? ⟨w.heap.size, 3, none⟩ = some (.int .i64 x3) := HBn.out.c 3 (by omega)
            have o4 : w5.cell? ⟨w.heap.size, 4, none⟩ = some (.int .i64 x4) := HBn.out.c 4 (by omega)
            refine bodyPost_ret (v := .tuple #[.agg #[.bool x0, .int .i64 x1, .int .i64 x2, .int .i64 x3, .int .i64 x4], .int .i64 0]) ?_ rfl HRn.out
            simp [results, Tryz.results18, go_sem, o0, o1, o2, o3, o4]
          case neg =>
            have hts : ¬ tst false begun last ⟨x0, x1, x2, x3, x4⟩ := fun h => h.elim (fun y => by rw [hbg] at y; cases y) (fun y => by simp only [Bool.false_eq_true, if_false] at y; exact hlt2 y)
            go_upto_region 16 with fail
            go_region_held3 (fun V => V.cell? ⟨k, 4, none⟩ = some (.bool true) ∧ V.cell? ⟨k, 3, none⟩ = some (.int .i64 last) ∧ V.cell? ⟨ge, m * 5 + 4, none⟩ = some (.int .i64 x4)) (first | with_reducible exact s0 | fail) (fail)
            clear s0 HQ
            have hnn := HN.out
            rw [hbg] at hnn hts
            have HNN := Lib.hid hnn
            have HTS := Lib.hid hts
            clear hnn hts
            go_wp2_with fail
            go_roundw
            case rel => exact ⟨m + 1, by omega, by go_num, fun j h1 => (Nat.lt_or_ge j m).elim (fun y => HNN.out j y) (fun y => by rw [show j = m by omega, HXE.out]; exact HTS.out), HBd.out⟩
            case measure => simp [intOf] <;> omega
end Go.Proofs.YtejfmajbggmghaaGreat
