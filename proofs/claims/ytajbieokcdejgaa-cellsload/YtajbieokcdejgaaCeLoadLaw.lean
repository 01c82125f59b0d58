/-
  CellsLoad, walked.
-/
import Derived.Test.YtajbieokcdejgaaCeLoads
import Derived.Test.YtajbieokcdejgaaCeOwnLaw
namespace Go.Proofs.Ytajbieokcdejgaa
open Go.RowKit Go.WideShapes

/-- The bytes that were handed in, and one more. -/
def xb (n : Nat) (g : Nat → Int) : Nat → Int := fun j => if j < n then g j else 77
set_option maxRecDepth 100000 in
set_option maxHeartbeats 8000000 in
theorem loadLaw_near (l : Int) (hl : ¬ (12 < l ∧ l ≤ 20)) (ab : Option Addr) (n cb bb ob : Nat) (G : Nat → Int) (a : Option Addr) (m cap b off : Nat) (K M : Nat → Int) (w : World) (hb : Bs w ab n cb bb ob G) (hs : Ss w a m cap b off K M) (hn : n ≤ 20000) (hm : m ≤ 300) :
    Calls Try.prog 5 #[.int .i64 l, .slice ab n cb, .slice a m cap] w fun e w' => e = .returned (.bool true) ∧ Below w.heap.size w w' := by
  obtain ⟨j0, hj0, jz0, jz1, jz2⟩ := info_parts Try.infoByte
  have i0 : ¬ (20000 : Int) < (n : Int) := by omega
  have i1 : ¬ (300 : Int) < (m : Int) := by omega
  have hnc := hb.le
  have HBS := Lib.hid hb
  have HSS := Lib.hid hs
  have HSB := Lib.hid hb.sl
  have BL := both_load l n G hb.rg
  clear hs hb
  by_cases i2 : 12 < l
  case' pos => have i3 : ¬ l ≤ 20 := by omega
  all_goals
    clear hl
    go_enter Try.func5, Try.ntmps5
    go_upto_region 5 with (at_builtin; refine app_bs rfl _ _ rfl rfl rfl HBS.out hn ?_; intro v1 w1 hI1 hb1)
    have hown1 : w1.ownsRow w.heap.size 5 1 v1 n (bl n (xb n G)) := hI1.congr fun j hj => by unfold xb; rw [if_pos hj]
    have FIN : Hid (∀ (v' : Value) (w2 : World), w2.ownsRow w.heap.size 5 1 v' (n + 1) (bl n (xb n G) ++ [.int .u8 77]) → Byt w.heap.size w2 v' (n + 1) (xb n G)) := fun v' w2 h5 => Byt.snoc h5 (by unfold xb; rw [if_neg (by omega)])
    have HBL : Hid ((bl n (xb n G)).length = n) := bl_len _ _
    have hsz1 := hb1.size
    clear hI1
    generalize bl n (xb n G) = R at hown1 FIN HBL
    go_upto_region 6 with (at_builtin; refine wpList_append_own _ rfl _ _ 36 rfl w.heap.size 5 j0 (.int .u8 0) 1 1 Try.underlying36 hj0 jz0 jz1 jz2 rfl (by decide) _ _ _ rfl (World.ownsRow.alloc hown1 _) ⟨w1.heap.size, 0, none⟩ 1 1 [.int .u8 77] rfl rfl (new_one _ _ _) (by simp [Value.oneCell']) (by unfold maxLen; omega) (by omega) (by simp; omega) ?_; intro v2 w2 hown2 hgrow _; have hI2 := FIN.out v2 w2 hown2; have hb2 := below_grown hb1 (Nat.le_refl _) hown1 hgrow; clear hgrow hown2)
    obtain ⟨ax, capx, X, ev, hcx, hpx, hcellx, hzx⟩ := hI2.open
    obtain ⟨rfl, lX, geX⟩ := hpx (by omega)
    subst ev
    have hX : SlB w2 (some ⟨X, 0, none⟩) n capx G := ⟨by omega, X, 0, fun _ => ⟨rfl, lX⟩, fun j hj => by have := hcellx j (by omega); unfold xb at this; rwa [if_pos hj] at this⟩
    have h77 : w2.cell? ⟨X, n, none⟩ = some (.int .u8 77) := by have := hcellx n (by omega); unfold xb at this; rwa [if_neg (by omega), Nat.zero_add] at this
    have hWX : Wrt w2 X (n + 1) := ⟨fun j hj => ⟨_, by have := hcellx j hj; rwa [Nat.zero_add] at this⟩, fun j => hzx j (by omega)⟩
    have t1 : (n : Int) ≤ (capx : Int) := by omega
    clear hown1 FIN HBL hcellx hzx hpx hI2
    have HX := Lib.hid hX
    have HWX := Lib.hid hWX
    have HB2 := Lib.hid hb2
    have hsz2 := hb2.size
    clear hX hWX hb2 hb1 hsz1
    rcases BL with ⟨E, hE, HL, HRL⟩ | ⟨L, S, rfl, hS, hnS, HL, HRL⟩
    · have e1 : (E != E) = false := by simp
      have e2 : (E != 0) = true := by simp [hE]
      have CL := HL.out w2 (some ⟨X, 0, none⟩) capx HX.out
      go_wp2_with fail
      refine CL.mono ?_
      rintro e w3 ⟨rfl, hb3⟩
      clear CL
      have HB3 := Lib.hid (HB2.out.trans (hb3.mono hsz2))
      have CR := HRL.out w3 ab cb (HSB.out.below HB3.out)
      have h773 := (hb3.cell (p := ⟨X, n, none⟩) lX).trans h77
      have HX3 := Lib.hid (HX.out.below hb3)
      clear hb3 HL HRL
      go_wp2_with fail
      refine CR.mono ?_
      rintro e w4 ⟨rfl, hb4⟩
      clear CR
      have hb5 : Below w4.heap.size w4 (w4.alloc (.cells #[.int .i64 0, .slice none 0 0] 30)) := (Below.refl _ w4).alloc (Nat.le_refl _) _
      have h775 := (hb5.cell (p := ⟨X, n, none⟩) (lt_of_cell ((hb4.cell (p := ⟨X, n, none⟩) (lt_of_cell h773)).trans h773))).trans ((hb4.cell (p := ⟨X, n, none⟩) (lt_of_cell h773)).trans h773)
      have HX5 := Lib.hid ((HX3.out.below hb4).below hb5)
      have HB4 := HB3.out.trans (hb4.mono HB3.out.size)
      have HB5 := Lib.hid (HB4.trans (hb5.mono HB4.size))
      have CB := bytes_any (some ⟨X, 0, none⟩) ab n capx cb G _ HX5.out (HSB.out.below HB5.out) (by omega)
      clear hb4 hb5 h773 HB4 HB3 HX3 HX5
      go_wp2_with fail
      refine CB.mono ?_
      rintro e w6 ⟨rfl, hb6⟩
      clear CB
      have h776 := (hb6.cell (p := ⟨X, n, none⟩) (lt_of_cell h775)).trans h775
      have HB6 := Lib.hid (HB5.out.trans (hb6.mono HB5.out.size))
      clear hb6 HB5 h775
      go_wp2_with fail
      refine (awake_any _).mono ?_
      rintro e w7 ⟨rfl, hb7⟩
      go_wp2
      go_ret
      exact ⟨rfl, HB6.out.trans (hb7.mono HB6.out.size)⟩
    · have CL := HL.out w2 (some ⟨X, 0, none⟩) capx HX.out
      have HSZ := Lib.hid hS
      have HNS := Lib.hid hnS
      have hp := hS.pos
      clear hS hnS
      go_wp2_with fail
      refine CL.mono ?_
      rintro e w3 ⟨c, r, h, rfl, hc, hr, hh, hC, hb3⟩
      clear CL
      have HB3 := Lib.hid (HB2.out.trans (hb3.mono hsz2))
      have CR := HRL.out w3 ab cb (HSB.out.below HB3.out)
      have h773 := (hb3.cell (p := ⟨X, n, none⟩) lX).trans h77
      have HX3 := Lib.hid (HX.out.below hb3)
      have HW3 : Hid (Wrt w3 X (n + 1)) := ⟨fun j hj => by obtain ⟨x, hx⟩ := HWX.out.c j hj; exact ⟨x, (hb3.cell (p := ⟨X, j, none⟩) lX).trans hx⟩, fun j => (World.frozen?_of_block (a := ⟨X, j, none⟩) (hb3.block X lX)).trans (HWX.out.z j)⟩
      have hsz3 := hb3.size
      clear hb3 HL HRL
      go_wp2_with fail
      refine CR.mono ?_
      rintro e w4 ⟨q, rfl, hq, hR, hb4⟩
      clear CR
      have HRV : Hid (rv L q S = .agg #[.int .i64 (L : Int), .slice (some ⟨q, 0, none⟩) S S]) := rfl
      rw [HRV.out]
      obtain ⟨w5, hw5⟩ : ∃ w5, w4.alloc (.cells #[.int .i64 (L : Int), .slice (some ⟨q, 0, none⟩) S S] 30) = w5 := ⟨_, rfl⟩
      have hb5 : Below w4.heap.size w4 w5 := by rw [← hw5]; exact (Below.refl _ w4).alloc (Nat.le_refl _) _
      have k0 : w5.cell? ⟨w4.heap.size, 0, none⟩ = some (.int .i64 (L : Int)) := by rw [← hw5]; exact cell_new0 _ _ _ _
      have k1 : w5.cell? ⟨w4.heap.size, 1, none⟩ = some (.slice (some ⟨q, 0, none⟩) S S) := by rw [← hw5]; exact cell_new1 _ _ _ _
      have hsz4 := hb4.size
      have hb45 : Below w3.heap.size w3 w5 := hb4.trans (hb5.mono hsz4)
      have h775 := (hb45.cell (p := ⟨X, n, none⟩) (lt_of_cell h773)).trans h773
      have HX5 := Lib.hid (HX3.out.below hb45)
      have HB5 := Lib.hid (HB3.out.trans (hb45.mono HB3.out.size))
      have lX3 := lt_of_cell h773
      have HW5 : Hid (Wrt w5 X (n + 1)) := ⟨fun j hj => by obtain ⟨x, hx⟩ := HW3.out.c j hj; exact ⟨x, (hb45.cell (p := ⟨X, j, none⟩) lX3).trans hx⟩, fun j => (World.frozen?_of_block (a := ⟨X, j, none⟩) (hb45.block X lX3)).trans (HW3.out.z j)⟩
      have HC5 := Lib.hid (hC.below hb45)
      have HR5 := Lib.hid (hR.below (by omega) hb5)
      have lq4 := hR.lt (by omega)
      have lC3 := hC.lt
      have CB := bytes_any (some ⟨X, 0, none⟩) ab n capx cb G w5 HX5.out (HSB.out.below HB5.out) (by omega)
      clear hb4 hb5 hb45 h773 HB3 HX3 HX5 HW3 hC hR
      go_wp2_with fail
      refine CB.mono ?_
      rintro e w6 ⟨rfl, hb6⟩
      clear CB hw5
      have h776 := (hb6.cell (p := ⟨X, n, none⟩) (lt_of_cell h775)).trans h775
      have lX5 := lt_of_cell h775
      have HB6 := Lib.hid (HB5.out.trans (hb6.mono HB5.out.size))
      have HW6 : Hid (Wrt w6 X (n + 1)) := ⟨fun j hj => by obtain ⟨x, hx⟩ := HW5.out.c j hj; exact ⟨x, (hb6.cell (p := ⟨X, j, none⟩) lX5).trans hx⟩, fun j => (World.frozen?_of_block (a := ⟨X, j, none⟩) (hb6.block X lX5)).trans (HW5.out.z j)⟩
      have HC6 := Lib.hid (HC5.out.below hb6)
      have HR6 := Lib.hid (HR5.out.below (by omega) hb6)
      have HK0 := Lib.hid ((hb6.cell (p := ⟨w4.heap.size, 0, none⟩) (lt_of_cell k0)).trans k0)
      have HK1 := Lib.hid ((hb6.cell (p := ⟨w4.heap.size, 1, none⟩) (lt_of_cell k0)).trans k1)
      generalize w4.heap.size = Mm at *
      clear hb6 HB5 h775 HW5 HC5 HR5 k0 k1
      go_wp2_with fail
      go_loopw [12] (fun iv wr => ∃ j : Nat, j ≤ n + 1 ∧ iv = .int .i64 (j : Int) ∧ Wrt wr X (n + 1) ∧ But X w6 wr) (fun iv _ => n + 1 - (intOf iv).toNat)
      case atStart => exact ⟨0, Nat.zero_le _, rfl, HW6.out, But.refl _ _⟩
      case round =>
        clear HW6 h776
        obtain ⟨j, hj, rfl, hW, hB⟩ := hrel
        by_cases hlt : j < n + 1
        · have t2 : (j : Int) < ((n + 1 : Nat) : Int) := by omega
          obtain ⟨x, hx⟩ := hW.c j hlt
          have hz := hW.z j
          have HP := Lib.hid (hW.put j 99)
          have HPB := Lib.hid (hB.setCell j (.int .u8 99))
          clear hW hB
          go_wp2_with fail
          go_roundw
          case rel => exact ⟨j + 1, by omega, by go_num, HP.out, HPB.out⟩
          case measure => simp [intOf]; omega
        · have t2 : ¬ (j : Int) < ((n + 1 : Nat) : Int) := by omega
          have hCr := HC6.out.but hB (by omega) (by omega) (by omega)
          have hRr := HR6.out.but (by omega) hB (by omega)
          have lK := lt_of_cell HK0.out
          have k0 := (hB.cell (p := ⟨Mm, 0, none⟩) lK (by show Mm ≠ X; omega)).trans HK0.out
          have k1 := (hB.cell (p := ⟨Mm, 1, none⟩) lK (by show Mm ≠ X; omega)).trans HK1.out
          have hBr := HB6.out.trans (hB.below geX HB6.out.size)
          clear hB hW HC6 HR6 HK0 HK1 HB6
          go_upto_region 16 with fail
          have hC0 := hCr.drew
          have hR0 := hRr.drew
          have hB0 := hBr.drew
          have k0' : wr.drew.cell? ⟨Mm, 0, none⟩ = some (.int .i64 (L : Int)) := k0
          have k1' : wr.drew.cell? ⟨Mm, 1, none⟩ = some (.slice (some ⟨q, 0, none⟩) S S) := k1
          have HBT : Hid (∀ j, j < n → G j = bt (wd L) (ld (wd L) G) j) := fun j hj => (bt_ld L G S (by rw [← HNS.out]; exact HBS.out.rg) j (by rw [← HNS.out]; exact hj)).symm
          have hmn := many_le HSZ.out
          have hwq : w.heap.size ≤ q := by omega
          have hwh : w.heap.size ≤ h := by omega
          have hMh : Mm ≠ h := by omega
          have hMq : Mm ≠ q := by omega
          clear hCr hRr hBr
          go_region_held3 (fun V => V.cell? ⟨Mm, 0, none⟩ = some (.int .i64 (L : Int)) ∧ V.cell? ⟨Mm, 1, none⟩ = some (.slice (some ⟨q, 0, none⟩) S S))
            (first | exact ⟨k0, k1⟩ | exact ⟨ka0, ka1⟩ | exact ⟨kb0, kb1⟩ | exact ⟨kc0, kc1⟩ | exact ⟨kd0, kd1⟩ | exact ⟨ke0, ke1⟩ | exact ⟨kf0, kf1⟩ | exact ⟨kg0, kg1⟩ | fail)
            (first | (go_at_call 14; refine (bytesM_any hCc).mono ?_; rintro e wd1 ⟨vd, rfl, hId, hbd⟩; obtain ⟨ad, cd, rfl, hSd⟩ := hId.sl; have kd0 := (hbd.cell (p := ⟨Mm, 0, none⟩) (lt_of_cell kc0)).trans kc0; have kd1 := (hbd.cell (p := ⟨Mm, 1, none⟩) (lt_of_cell kc0)).trans kc1; have hBd := hBc.trans (hbd.mono hBc.size); have hCd := hCc.below hbd; have hRd := hRc.below (by omega) hbd)
                   | (go_at_call 14; refine (bytesM_any hC0).mono ?_; rintro e wa ⟨va, rfl, hIa, hba⟩; rw [← HNS.out] at hIa; obtain ⟨aa, ca, rfl, hSa0⟩ := hIa.sl; have hSa := hSa0.congr HBT.out; have ka0 := (hba.cell (p := ⟨Mm, 0, none⟩) (lt_of_cell k0')).trans k0'; have ka1 := (hba.cell (p := ⟨Mm, 1, none⟩) (lt_of_cell k0')).trans k1'; have hBa := hB0.trans (hba.mono hB0.size); have hCa := hC0.below hba; have hRa := hR0.below (by omega) hba)
                   | (go_at_call 13; refine (bytes_any ad ae _ cd ce _ we (hSd.below hbe) hSe (by omega)).mono ?_; rintro e wf ⟨rfl, hbf⟩; have kf0 := (hbf.cell (p := ⟨Mm, 0, none⟩) (lt_of_cell ke0)).trans ke0; have kf1 := (hbf.cell (p := ⟨Mm, 1, none⟩) (lt_of_cell ke0)).trans ke1; have hBf := hBe.trans (hbf.mono hBe.size))
                   | (go_at_call 13; refine (bytes_any aa ab n ca cb G wa hSa (HSB.out.below hBa) (by omega)).mono ?_; rintro e wb ⟨rfl, hbb⟩; have kb0 := (hbb.cell (p := ⟨Mm, 0, none⟩) (lt_of_cell ka0)).trans ka0; have kb1 := (hbb.cell (p := ⟨Mm, 1, none⟩) (lt_of_cell ka0)).trans ka1; have hBb := hBa.trans (hbb.mono hBa.size); have hCb := hCa.below hbb; have hRb := hRa.below (by omega) hbb)
                   | (go_at_call 12; refine (plays_in hCb hRb a m cap b off K M HSS.out hm hBb hwh hwq).mono ?_; rintro e wc ⟨rfl, f', hCc, hRc, hbc⟩; have kc0 := (hbc.cell (p := ⟨Mm, 0, none⟩) (lt_of_cell kb0) hMh hMq).trans kb0; have kc1 := (hbc.cell (p := ⟨Mm, 1, none⟩) (lt_of_cell kb0) hMh hMq).trans kb1; have hBc := hBb.trans (hbc.below hwh hwq hBb.size))
                   | (go_at_call 15; refine (rbytes_any HSZ.out hRd (fun i hi => hCd.ints i hi)).mono ?_; rintro e we ⟨ve, rfl, hIe, hbe⟩; obtain ⟨ae, ce, rfl, hSe⟩ := hIe.sl; have ke0 := (hbe.cell (p := ⟨Mm, 0, none⟩) (lt_of_cell kd0)).trans kd0; have ke1 := (hbe.cell (p := ⟨Mm, 1, none⟩) (lt_of_cell kd0)).trans kd1; have hBe := hBd.trans (hbe.mono hBd.size))
                   | (go_at_call 8; refine (awake_any _).mono ?_; rintro e wg ⟨rfl, hbg⟩; have kg0 := (hbg.cell (p := ⟨Mm, 0, none⟩) (lt_of_cell kf0)).trans kf0; have kg1 := (hbg.cell (p := ⟨Mm, 1, none⟩) (lt_of_cell kf0)).trans kf1; have hBg := hBf.trans (hbg.mono hBf.size))
                   | fail)
          go_wp2
          go_ret
          exact ⟨rfl, hBg⟩
set_option maxRecDepth 100000 in
theorem loadLaw_walk (l : Int) (ab : Option Addr) (n cb bb ob : Nat) (G : Nat → Int) (a : Option Addr) (m cap b off : Nat) (K M : Nat → Int) (w : World) (hb : Bs w ab n cb bb ob G) (hs : Ss w a m cap b off K M) :
    Calls Try.prog 5 #[.int .i64 l, .slice ab n cb, .slice a m cap] w fun e w' => e = .returned (.bool true) ∧ Below w.heap.size w w' := by
  by_cases hn : n ≤ 20000
  · have i0 : ¬ (20000 : Int) < (n : Int) := by omega
    by_cases hm : m ≤ 300
    · have i1 : ¬ (300 : Int) < (m : Int) := by omega
      by_cases hl : 12 < l ∧ l ≤ 20
      · obtain ⟨i2, i3⟩ := hl
        clear hb hs
        go_enter Try.func5, Try.ntmps5
        go_wp2_with fail
        refine (awake_any _).mono ?_
        rintro e w6 ⟨rfl, hb6⟩
        go_wp2
        go_ret
        exact ⟨rfl, hb6⟩
      · exact loadLaw_near l hl ab n cb bb ob G a m cap b off K M w hb hs hn hm
    · have i1 : (300 : Int) < (m : Int) := by omega
      clear hb hs
      go_enter Try.func5, Try.ntmps5
      go_wp2_with fail
      refine (awake_any _).mono ?_
      rintro e w6 ⟨rfl, hb6⟩
      go_wp2
      go_ret
      exact ⟨rfl, hb6⟩
  · have i0 : (20000 : Int) < (n : Int) := by omega
    clear hb hs
    go_enter Try.func5, Try.ntmps5
    go_wp2_with fail
    refine (awake_any _).mono ?_
    rintro e w6 ⟨rfl, hb6⟩
    go_wp2
    go_ret
    exact ⟨rfl, hb6⟩
end Go.Proofs.Ytajbieokcdejgaa
