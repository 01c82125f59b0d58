/-
  CellsPlay, walked.
-/
import Derived.Test.YtajbieokcdejgaaCeWide
import Derived.Test.YtajbieokcdejgaaCeGoes
namespace Go.Proofs.Ytajbieokcdejgaa
open Go.RowKit Go.WideShapes

/-- plays, wherever the steps lie that were handed in. -/
theorem plays_in {w w4 : World} {g r h L S q : Nat} {f : Nat → Int} (hC : Cl w4 g r h L S f) (hR : Rf w4 q S f) (a : Option Addr) (n cap b off : Nat) (K M : Nat → Int) (hs : Ss w a n cap b off K M) (hn : n ≤ 300) (hB : Below w.heap.size w w4) (hh : w.heap.size ≤ h) (hq : w.heap.size ≤ q) :
    Calls Try.prog 12 #[.pointer (some ⟨g, 0, none⟩), rv L q S, .slice a n cap] w4 fun e w' => e = .returned (.bool true) ∧ ∃ f', Cl w' g r h L S f' ∧ Rf w' q S f' ∧ But2 h q w4 w' := by
  by_cases h0 : 0 < n
  · have hb0 := (hs.pl h0).2
    refine plays_any hC hR a n cap b off K M ?_ hn (by omega) (by omega)
    exact ⟨hs.le, fun h0 => ⟨(hs.pl h0).1, Nat.lt_of_lt_of_le (hs.pl h0).2 hB.size⟩, fun i hi => (hB.cell (p := ⟨b, off + i * 2, none⟩) hb0).trans (hs.c0 i hi), fun i hi => (hB.cell (p := ⟨b, off + i * 2 + 1, none⟩) hb0).trans (hs.c1 i hi)⟩
  · exact plays_any hC hR a n cap (h + q + 1) off K M ⟨hs.le, fun h => absurd h h0, fun i hi => absurd hi (by omega), fun i hi => absurd hi (by omega)⟩ hn (by omega) (by omega)
theorem many_le {L S : Nat} (hS : Sz L S) : S * wd L ≤ 4194304 := by
  have h1 := hS.most
  have h2 : wd L ≤ 4 := by rcases wd_cases L with e | e | e <;> omega
  exact Nat.le_trans (Nat.mul_le_mul h1 h2) (by decide)
set_option maxRecDepth 100000 in
set_option maxHeartbeats 8000000 in
theorem playLaw_near {L S : Nat} (hS : Sz L S) (hL : L ≤ 12) (a : Option Addr) (n cap b off : Nat) (K M : Nat → Int) (stop : Int) (w : World) (hs : Ss w a n cap b off K M) (hn : n ≤ 300) :
    Calls Try.prog 3 #[.int .i64 (L : Int), .slice a n cap, .int .i64 stop] w fun e w' => e = .returned (.bool true) ∧ Below w.heap.size w w' := by
  have hfn : ∀ wx fn f1 c, (binOp .neq 40 (.func fn f1 c) .nilFunc).run Try.prog wx = .ok (.bool true) wx := fun _ _ _ _ => by kernel_rfl
  have i1 : ¬ (300 : Int) < (n : Int) := by omega
  have i2 : ¬ 12 < (L : Int) := by omega
  have C1 := new_any hS w
  have HSZ := Lib.hid hS
  have HSS := Lib.hid hs
  have hp := hS.pos
  have hmost := hS.most
  have hmn := many_le hS
  have hnc := hs.le
  clear hS hs hL
  go_enter Try.func3, Try.ntmps3
  go_wp2_with fail
  refine C1.mono ?_
  rintro e w1 ⟨g, r, h, rfl, hg, hr, hh, hC, hb1⟩
  clear C1
  have C2 := rnew_any HSZ.out w1
  go_wp2_with fail
  refine C2.mono ?_
  rintro e w2 ⟨q, rfl, hq, hR, hb2⟩
  clear C2
  unfold rv
  obtain ⟨w3, hw3⟩ : ∃ w3, w2.alloc (.cells #[.int .i64 (L : Int), .slice (some ⟨q, 0, none⟩) S S] 30) = w3 := ⟨_, rfl⟩
  have k0 : w3.cell? ⟨w2.heap.size, 0, none⟩ = some (.int .i64 (L : Int)) := by rw [← hw3]; exact cell_new0 _ _ _ _
  have k1 : w3.cell? ⟨w2.heap.size, 1, none⟩ = some (.slice (some ⟨q, 0, none⟩) S S) := by rw [← hw3]; exact cell_new1 _ _ _ _
  have hb3 : Below w2.heap.size w2 w3 := by rw [← hw3]; exact (Below.refl _ w2).alloc (Nat.le_refl _) _
  have hs3 : w3.heap.size = w2.heap.size + 1 := by rw [← hw3]; simp
  have lC := (hC.below hb2).lt
  have lR := hR.lt (by omega)
  have hC3 := (hC.below hb2).below hb3
  have hR3 := hR.below (by omega) hb3
  have hBW := ((hb1.trans (hb2.mono hb1.size)).trans (hb3.mono (Nat.le_trans hb1.size hb2.size)))
  have hz1 := hb1.size
  have hqw : w.heap.size ≤ q := Nat.le_trans hz1 hq
  clear hb1 hb2 hb3 hC hR
  go_upto_region 9 with fail
  clear hw3
  generalize w2.heap.size = Mm at *
  have hC3' := hC3.drew
  have hR3' := hR3.drew
  have hBW' := hBW.drew
  have k0' : w3.drew.cell? ⟨Mm, 0, none⟩ = some (.int .i64 (L : Int)) := k0
  have k1' : w3.drew.cell? ⟨Mm, 1, none⟩ = some (.slice (some ⟨q, 0, none⟩) S S) := k1
  have hs3' : w3.drew.heap.size = Mm + 1 := hs3
  clear hC3 hR3 hBW
  have hrv : Value.agg #[.int .i64 (L : Int), .slice (some ⟨q, 0, none⟩) S S] = rv L q S := rfl
  have HRV := Lib.hid hrv
  clear hrv
  go_region_held3 (fun V => V.cell? ⟨Mm, 0, none⟩ = some (.int .i64 (L : Int)) ∧ V.cell? ⟨Mm, 1, none⟩ = some (.slice (some ⟨q, 0, none⟩) S S))
    (first | exact ⟨k0, k1⟩ | exact ⟨ka0, ka1⟩ | exact ⟨kb0, kb1⟩ | exact ⟨kc0, kc1⟩ | exact ⟨kd0, kd1⟩ | exact ⟨ke0, ke1⟩ | fail)
    (first | (go_at_call 11; refine (alike_any hC3' q).mono ?_; rintro e wa ⟨rfl, hba⟩; have ka0 := (hba.cell (p := ⟨Mm, 0, none⟩) (lt_of_cell k0')).trans k0'; have ka1 := (hba.cell (p := ⟨Mm, 1, none⟩) (lt_of_cell k0')).trans k1'; have hBa := hBW'.trans (hba.mono hBW'.size); have hCa := hC3'.below hba; have hRa := hR3'.below (by omega) hba; have hsa := hba.size)
           | (go_at_call 12; refine (plays_in hCa hRa a n cap b off K M HSS.out hn hBa hh hqw).mono ?_; rintro e wb ⟨rfl, f', hCb, hRb, hbb⟩; have kb0 := (hbb.cell (p := ⟨Mm, 0, none⟩) (by show Mm < wa.heap.size; omega) (by show Mm ≠ h; omega) (by show Mm ≠ q; omega)).trans ka0; have kb1 := (hbb.cell (p := ⟨Mm, 1, none⟩) (by show Mm < wa.heap.size; omega) (by show Mm ≠ h; omega) (by show Mm ≠ q; omega)).trans ka1; have hBb := hBa.trans (hbb.below hh hqw hBa.size))
           | (go_at_call 14; refine (bytesM_any hCb).mono ?_; rintro e wc ⟨vc, rfl, hIc, hbc⟩; obtain ⟨ac, cc, rfl, hSc⟩ := hIc.sl; have kc0 := (hbc.cell (p := ⟨Mm, 0, none⟩) (lt_of_cell kb0)).trans kb0; have kc1 := (hbc.cell (p := ⟨Mm, 1, none⟩) (lt_of_cell kb0)).trans kb1; have hBc := hBb.trans (hbc.mono hBb.size); have hCc := hCb.below hbc; have hRc := hRb.below (by omega) hbc)
           | (go_at_call 15; refine (rbytes_any HSZ.out hRc (fun i hi => hCc.ints i hi)).mono ?_; rintro e wd1 ⟨vd, rfl, hId, hbd⟩; obtain ⟨ad, cd, rfl, hSd⟩ := hId.sl; have kd0 := (hbd.cell (p := ⟨Mm, 0, none⟩) (lt_of_cell kc0)).trans kc0; have kd1 := (hbd.cell (p := ⟨Mm, 1, none⟩) (lt_of_cell kc0)).trans kc1; have hBd := hBc.trans (hbd.mono hBc.size); have hCd := hCc.below hbd; have hRd := hRc.below (by omega) hbd)
           | (go_at_call 13; refine (bytes_any ac ad _ cc cd _ wd1 (hSc.below hbd) hSd (by omega)).mono ?_; rintro e we ⟨rfl, hbe⟩; have ke0 := (hbe.cell (p := ⟨Mm, 0, none⟩) (lt_of_cell kd0)).trans kd0; have ke1 := (hbe.cell (p := ⟨Mm, 1, none⟩) (lt_of_cell kd0)).trans kd1; have hBe := hBd.trans (hbe.mono hBd.size); have hCe := hCd.below hbe; have hRe := hRd.below (by omega) hbe)
           | fail)
  have CA := allM_any hCe
  have HFI := Lib.hid (fun i hi => hCe.ints i hi)
  have HR := Lib.hid hRe
  have HBe := Lib.hid hBe
  have hlk := lt_of_cell ke0
  have lqe := hRe.lt (by omega)
  clear k0 k1 ka0 ka1 kb0 kb1 kc0 kc1 kd0 kd1 k0' k1' hC3' hR3' hBW' hba hBa hCa hRa hbb hCb hRb hBb hbc hBc hCc hRc hbd hBd hCd hRd hbe hBe hCe hRe hSc hSd hIc hId lC lR hs3 hs3' hsa
  go_wp2_with fail
  refine CA.mono ?_
  rintro e wf ⟨r', h', cap', rfl, hr', hh', hRw, hbf⟩
  clear CA
  have kf1 := (hbf.cell (p := ⟨Mm, 1, none⟩) hlk).trans ke1
  have hqf := HR.out.below (by omega) hbf
  have CG := goes_any hRw hmost (by omega) HFI.out q S hqf.hc stop
  have HBf := Lib.hid (HBe.out.trans (hbf.mono HBe.out.size))
  have hlf := lt_of_cell kf1
  obtain ⟨I, hI⟩ : ∃ I, itv L r' = .func (.method "lexicon/cells.each") I #[] := ⟨_, rfl⟩
  rw [hI] at CG ⊢
  go_wp2_with fail
  refine CG.mono ?_
  rintro e wg ⟨rfl, hbg⟩
  clear CG
  have kg1 := (hbg.cell (p := ⟨Mm, 1, none⟩) hlf).trans kf1
  have CG2 := goes_any (hRw.below (by omega) hbg) hmost (by omega) HFI.out q S (hqf.below (by omega) hbg).hc 0
  rw [hI] at CG2
  have HBg := Lib.hid (HBf.out.trans (hbg.mono HBf.out.size))
  clear ke0 ke1 kf1 hbf hqf hRw hbg HBf HBe hI
  go_wp2_with fail
  refine CG2.mono ?_
  rintro e wh ⟨rfl, hbh⟩
  clear CG2
  have HBh := Lib.hid (HBg.out.trans (hbh.mono HBg.out.size))
  clear HBg hbh kg1
  go_wp2_with fail
  refine (awake_any _).mono ?_
  rintro e wi ⟨rfl, hbi⟩
  go_wp2
  go_ret
  exact ⟨rfl, HBh.out.trans (hbi.mono HBh.out.size)⟩
set_option maxRecDepth 100000 in
theorem playLaw_walk (l : Int) (a : Option Addr) (n cap b off : Nat) (K M : Nat → Int) (stop : Int) (w : World) (hs : Ss w a n cap b off K M) :
    Calls Try.prog 3 #[.int .i64 l, .slice a n cap, .int .i64 stop] w fun e w' => e = .returned (.bool true) ∧ Below w.heap.size w w' := by
  by_cases hn : n ≤ 300
  · have i1 : ¬ (300 : Int) < (n : Int) := by omega
    by_cases hl : 3 ≤ l ∧ l ≤ 12
    · obtain ⟨L, rfl⟩ : ∃ L : Nat, l = (L : Int) := ⟨l.toNat, by omega⟩
      exact playLaw_near ⟨rfl, by omega, by omega⟩ (by omega) a n cap b off K M stop w hs hn
    · by_cases hl2 : 12 < l ∧ l ≤ 20
      · obtain ⟨i2, i3⟩ := hl2
        clear hl hs
        go_enter Try.func3, Try.ntmps3
        go_wp2_with fail
        refine (awake_any _).mono ?_
        rintro e w6 ⟨rfl, hb6⟩
        go_wp2
        go_ret
        exact ⟨rfl, hb6⟩
      · have C1 := new_no l (by omega) w
        have C2 := rnew_no l (by omega) w
        by_cases i2 : 12 < l
        case' pos => have i3 : ¬ l ≤ 20 := by omega
        all_goals
          clear hl hl2 hs
          go_enter Try.func3, Try.ntmps3
          go_wp2_with fail
          refine C1.mono ?_
          rintro e w1 ⟨rfl, rfl⟩
          clear C1
          go_wp2_with fail
          refine C2.mono ?_
          rintro e w2 ⟨rfl, hb2⟩
          clear C2
          have HB := Lib.hid (hb2.alloc hb2.size (.cells #[.int .i64 0, .slice none 0 0] 30))
          go_wp2_with fail
          refine (awake_any _).mono ?_
          rintro e w6 ⟨rfl, hb6⟩
          go_wp2
          go_ret
          exact ⟨rfl, HB.out.trans (hb6.mono HB.out.size)⟩
  · have i1 : (300 : Int) < (n : Int) := by omega
    clear hs
    go_enter Try.func3, Try.ntmps3
    go_wp2_with fail
    refine (awake_any _).mono ?_
    rintro e w6 ⟨rfl, hb6⟩
    go_wp2
    go_ret
    exact ⟨rfl, hb6⟩
end Go.Proofs.Ytajbieokcdejgaa
