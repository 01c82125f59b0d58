/-
  Is the dictionary the sequence?
-/
import Derived.Test.YtbpflmdefpjcaaaGreatGxag
import Derived.Test.YtbpflmdefpjcaaaGreatGxak
import Derived.Test.YtbpflmdefpjcaaaGreatGxah
namespace Go.Proofs.YtbpflmdefpjcaaaGreat
open Go.RowKit Go.WideShapes

set_option maxRecDepth 100000 in
set_option maxHeartbeats 16000000 in
theorem ralike_any {w : World} {r d g gi rr h m : Nat} {ev av tv tv2 lv av2 : Value} {t : Tb} {most most2 v : Nat} {q : List Int} {same same2 : Int} {L : List Pq} {i1 i2 : Bool} (p : Rq w r d g gi rr h ev av tv t most v q same i1) (M : Mq w m lv av2 tv2 L most2 v q same2 i2) (hpq : pqs t.es = L) (hv : v ≤ 1000000) (hl : L.length ≤ 1000000) (hq : q.length ≤ 1000000) :
    Calls Tryz.prog 8 #[.pointer (some ⟨r, 0, none⟩), .pointer (some ⟨m, 0, none⟩)] w fun e w' => e = .returned (.bool true) ∧ Below w.heap.size w w' := by
  have CP := pairs_any p.dc
  have x0 : w.cell? ⟨r, 0, none⟩ = some (.pointer (some ⟨d, 0, none⟩)) := p.hd.c 0 (by omega)
  have HP := Lib.hid p
  have HM := Lib.hid M
  have hln : (liveL t.es).length = L.length := by rw [← hpq, pqs_len]
  have hlv : (t.live : Int) = (L.length : Int) := by rw [← hpq, live_pqs]
  have HPQ := Lib.hid hpq
  have HLN := Lib.hid hln
  have HLV := Lib.hid hlv
  clear p M hpq hln hlv
  go_enter Tryz.func8, Tryz.ntmps8
  go_wp2_with fail
  refine CP.mono ?_
  rintro e w1 ⟨vp, rfl, hE, hb1⟩
  clear CP x0
  obtain ⟨ap, capp, hvp, hSE⟩ := hE.es.sl
  rw [HLN.out] at hvp hSE
  subst hvp
  have p1 := HP.out.below hb1
  have M1 := HM.out.same (w' := w1) fun k hk => hb1.block k (HM.out.lt k hk)
  have hlp : L.length ≤ capp := hSE.2.1
  obtain ⟨al, capl, hlv2, hcapl, gl, hal, hcl⟩ := M1.row.open
  obtain ⟨aq, capq, gq, hav1, hcq, hqa⟩ := p1.ask.open
  obtain ⟨am, capm, gm, hav2, hcm, hma⟩ := M1.ask.open
  subst hlv2 hav1 hav2
  -- what stands there for good
  have HF : Hid (∀ V, Below w1.heap.size w1 V → (V.cell? ⟨r, 0, none⟩ = some (.pointer (some ⟨d, 0, none⟩)) ∧ V.cell? ⟨r, 1, none⟩ = some (.slice aq q.length capq)) ∧ V.cell? ⟨m, 0, none⟩ = some (.slice al L.length capl) ∧ V.cell? ⟨m, 2, none⟩ = some (.int .i64 (v : Int)) ∧ V.cell? ⟨m, 3, none⟩ = some (.slice am q.length capm)) := fun V hb => by
    have pV := p1.below hb
    have MV := M1.same (w' := V) fun k hk => hb.block k (M1.lt k hk)
    exact ⟨⟨pV.hd.c 0 (by omega), pV.hd.c 1 (by omega)⟩, MV.hd.c 0 (by omega), MV.hd.c 2 (by omega), MV.hd.c 3 (by omega)⟩
  have HR : Hid (∀ V, Below w1.heap.size w1 V → ∀ j, j < L.length → ∃ gp, ap = some ⟨gp, 0, none⟩ ∧ al = some ⟨gl, 0, none⟩ ∧ (V.cell? ⟨gp, j * 5, none⟩ = some (.bool true) ∧ V.cell? ⟨gp, j * 5 + 1, none⟩ = some (.int .i64 (L.getD j default).hash) ∧ V.cell? ⟨gp, j * 5 + 2, none⟩ = some (.int .i64 (L.getD j default).key) ∧ V.cell? ⟨gp, j * 5 + 3, none⟩ = some (.int .i64 (L.getD j default).value)) ∧ V.cell? ⟨gl, j * 3, none⟩ = some (.int .i64 (L.getD j default).hash) ∧ V.cell? ⟨gl, j * 3 + 1, none⟩ = some (.int .i64 (L.getD j default).key) ∧ V.cell? ⟨gl, j * 3 + 2, none⟩ = some (.int .i64 (L.getD j default).value)) := fun V hb j hj => by
    obtain ⟨_, _, gp, hap, hro⟩ := hSE.below hb
    have MV := M1.same (w' := V) fun k hk => hb.block k (M1.lt k hk)
    obtain ⟨al', capl', hlv', _, gl', hal', hcl'⟩ := MV.row.open
    have hlv2 := hlv'
    injection hlv2 with ea _ ec
    have e1 := hal (by omega)
    have e2 := hal' (by omega)
    rw [← ea, e1] at e2
    injection e2 with e3
    injection e3 with e4
    subst e4
    have hj' : j < (liveL t.es).length := by rw [HLN.out]; exact hj
    have eg : L.getD j default = pqE (nth (liveL t.es) j) := by rw [← HPQ.out, pqs_getD hj']
    have c0 := hro.c0 j hj
    have c1 := hro.c1 j hj
    have c2 := hro.c2 j hj
    have c3 := hro.c3 j hj
    rw [liveL_nth t.es j hj'] at c0
    obtain ⟨g0, g1, g2⟩ := hcl' j hj
    exact ⟨gp, (hap (by omega)).1, e1, ⟨c0, by rw [eg]; exact c1, by rw [eg]; exact c2, by rw [eg]; exact c3⟩, g0, g1, g2⟩
  have HQ : Hid (∀ V, Below w1.heap.size w1 V → ∀ j, j < q.length → aq = some ⟨gq, 0, none⟩ ∧ am = some ⟨gm, 0, none⟩ ∧ V.cell? ⟨gq, j, none⟩ = some (.int .i64 (q[j]?.getD 0)) ∧ V.cell? ⟨gm, j, none⟩ = some (.int .i64 (q[j]?.getD 0))) := fun V hb j hj => by
    obtain ⟨e1, l1, _, b1⟩ := hqa (by omega)
    obtain ⟨e2, l2, _, b2⟩ := hma (by omega)
    exact ⟨e1, e2, (b1.same (hb.block gq l1)).c j hj, (b2.same (hb.block gm l2)).c j hj⟩
  have p1d := p1.same (w' := w1.drew) fun _ _ => rfl
  have C1 : Calls Tryz.prog 21 #[.pointer (some ⟨d, 0, none⟩)] w1.drew fun e w' => e = .returned (.int .i64 (L.length : Int)) ∧ w' = w1.drew := by
    rw [← HLV.out]
    exact plen_any (p1d.dc.hd.c 0 (by omega)) (p1d.dc.dt.hd.c 3 (by omega))
  have C2 := version_any (w := w1.drew) (v := v) (by omega) (p1d.dc.hd.c 2 (by omega))
  have s0 := HF.out w1.drew (Below.refl _ w1).drew
  have HB1 := Lib.hid hb1
  clear hE hSE p1 M1 hal hcl hqa hma p1d hb1
  generalize hn : L.length = n at *
  generalize hnq : q.length = nq at *
  have HN := Lib.hid hn
  have HNQ := Lib.hid hnq
  clear hn hnq
  have b1 : ((n : Int) != (n : Int)) = false := by simp
  have b2 : ((v : Int) != (v : Int)) = false := by simp
  have b3 : ((nq : Int) != (nq : Int)) = false := by simp
  go_upto_region 2 with fail
  go_region_held3 (fun V => (V.cell? ⟨r, 0, none⟩ = some (.pointer (some ⟨d, 0, none⟩)) ∧ V.cell? ⟨r, 1, none⟩ = some (.slice aq nq capq)) ∧ V.cell? ⟨m, 0, none⟩ = some (.slice al n capl) ∧ V.cell? ⟨m, 2, none⟩ = some (.int .i64 (v : Int)) ∧ V.cell? ⟨m, 3, none⟩ = some (.slice am nq capm))
    (first | with_reducible exact s0 | fail)
    (first | (go_at_call 21; refine C1.mono ?_; rintro e v9 ⟨rfl, rfl⟩) | (go_at_call 22; refine C2.mono ?_; rintro e v9 ⟨rfl, rfl⟩) | fail)
  clear C1 C2 s0 b1 b2 b3
  go_wp2_with fail
  go_loopw [6] (fun iv wr => ∃ k : Nat, k ≤ n ∧ iv = .int .i64 (k : Int) ∧ Below w1.heap.size w1 wr) (fun iv _ => n - (intOf iv).toNat)
  case atStart => exact ⟨0, Nat.zero_le _, rfl, (Below.refl _ w1).drew⟩
  case round =>
    obtain ⟨k, hk, rfl, hB⟩ := hrel
    by_cases hlt : k < n
    · have t1 : (k : Int) < (n : Int) := by omega
      have t2 : ¬ (k : Int) < 0 := by omega
      obtain ⟨gp, e1, e2, ⟨c0, c1, c2, c3⟩, d0, d1, d2⟩ := HR.out wr.drew hB.drew k hlt
      have m0 := (HF.out wr.drew hB.drew).2.1
      subst e1 e2
      generalize (L.getD k default) = pk at *
      obtain ⟨ph, pky, pv⟩ := pk
      simp only at c1 c2 c3 d0 d1 d2
      have n0 : (ph != ph) = false := by simp
      have n1 : (pky != pky) = false := by simp
      have n2 : (pv != pv) = false := by simp
      have hcc : n ≤ capl := hcapl
      have hcp : n ≤ capp := hlp
      have s0 : (wr.drew.cell? ⟨m, 0, none⟩ = some (.slice (some ⟨gl, 0, none⟩) n capl) ∧ wr.drew.cell? ⟨gp, k * 5, none⟩ = some (.bool true)) ∧ (wr.drew.cell? ⟨gp, k * 5 + 1, none⟩ = some (.int .i64 ph) ∧ wr.drew.cell? ⟨gp, k * 5 + 2, none⟩ = some (.int .i64 pky) ∧ wr.drew.cell? ⟨gp, k * 5 + 3, none⟩ = some (.int .i64 pv)) ∧ (wr.drew.cell? ⟨gl, k * 3, none⟩ = some (.int .i64 ph) ∧ wr.drew.cell? ⟨gl, k * 3 + 1, none⟩ = some (.int .i64 pky)) ∧ wr.drew.cell? ⟨gl, k * 3 + 2, none⟩ = some (.int .i64 pv) := ⟨⟨m0, c0⟩, ⟨c1, c2, c3⟩, ⟨d0, d1⟩, d2⟩
      clear c0 c1 c2 c3 d0 d1 d2 m0
      go_upto_region 7 with fail
      go_region_held3 (fun V => (V.cell? ⟨m, 0, none⟩ = some (.slice (some ⟨gl, 0, none⟩) n capl) ∧ V.cell? ⟨gp, k * 5, none⟩ = some (.bool true)) ∧ (V.cell? ⟨gp, k * 5 + 1, none⟩ = some (.int .i64 ph) ∧ V.cell? ⟨gp, k * 5 + 2, none⟩ = some (.int .i64 pky) ∧ V.cell? ⟨gp, k * 5 + 3, none⟩ = some (.int .i64 pv)) ∧ (V.cell? ⟨gl, k * 3, none⟩ = some (.int .i64 ph) ∧ V.cell? ⟨gl, k * 3 + 1, none⟩ = some (.int .i64 pky)) ∧ V.cell? ⟨gl, k * 3 + 2, none⟩ = some (.int .i64 pv))
        (first | with_reducible exact s0 | fail) (fail)
      clear s0 n0 n1 n2
      go_wp2_with fail
      go_roundw
      case rel => exact ⟨k + 1, by omega, by go_num, hB.drew⟩
      case measure => simp [intOf]; omega
    · have t1 : ¬ (k : Int) < (n : Int) := by omega
      go_wp2_with fail
      go_loopw [7] (fun iv wr => ∃ k : Nat, k ≤ nq ∧ iv = .int .i64 (k : Int) ∧ Below w1.heap.size w1 wr) (fun iv _ => nq - (intOf iv).toNat)
      case atStart => exact ⟨0, Nat.zero_le _, rfl, hB⟩
      case round =>
        clear hB
        obtain ⟨k2, hk2, rfl, hB2⟩ := hrel
        have r1 := (HF.out _ hB2).1.2
        by_cases hlt2 : k2 < nq
        · have t3 : (k2 : Int) < (nq : Int) := by omega
          have t4 : ¬ (k2 : Int) < 0 := by omega
          obtain ⟨e1, e2, c1, c2⟩ := HQ.out wr.drew hB2.drew k2 hlt2
          obtain ⟨⟨_, z1⟩, _, _, z3⟩ := HF.out wr.drew hB2.drew
          subst e1 e2
          generalize (q[k2]?.getD 0) = y at *
          have n0 : (y != y) = false := by simp
          have hc1 : nq ≤ capq := hcq
          have hc2 : nq ≤ capm := hcm
          have s0 : (wr.drew.cell? ⟨r, 1, none⟩ = some (.slice (some ⟨gq, 0, none⟩) nq capq) ∧ wr.drew.cell? ⟨m, 3, none⟩ = some (.slice (some ⟨gm, 0, none⟩) nq capm)) ∧ wr.drew.cell? ⟨gq, k2, none⟩ = some (.int .i64 y) ∧ wr.drew.cell? ⟨gm, k2, none⟩ = some (.int .i64 y) := ⟨⟨z1, z3⟩, c1, c2⟩
          clear c1 c2 z1 z3
          go_upto_region 12 with fail
          go_region_held3 (fun V => (V.cell? ⟨r, 1, none⟩ = some (.slice (some ⟨gq, 0, none⟩) nq capq) ∧ V.cell? ⟨m, 3, none⟩ = some (.slice (some ⟨gm, 0, none⟩) nq capm)) ∧ V.cell? ⟨gq, k2, none⟩ = some (.int .i64 y) ∧ V.cell? ⟨gm, k2, none⟩ = some (.int .i64 y))
            (first | with_reducible exact s0 | fail) (fail)
          clear s0 n0
          go_wp2_with fail
          go_roundw
          case rel => exact ⟨k2 + 1, by omega, by go_num, hB2.drew⟩
          case measure => simp [intOf]; omega
        · have t3 : ¬ (k2 : Int) < (nq : Int) := by omega
          have HBE := Lib.hid (HB1.out.trans (hB2.mono HB1.out.size))
          clear hB2
          go_wp2_with fail
          go_ret
          exact ⟨rfl, HBE.out⟩
end Go.Proofs.YtbpflmdefpjcaaaGreat
