/-
  container/heap's up and down over the free slots.
-/
import Derived.Test.YtbnmnmbfdfgohaaDoorSmPush
import Derived.LoopTactic
namespace Go.Proofs.YtbnmnmbfdfgohaaDoor
open Go.RowKit Go.WideShapes

/-- A heap's block and its pointer, while it is turned. -/
structure Fu (w wr : World) (g h n cap : Nat) (f f' : Nat → Int) : Prop where
  c1 : wr.cell? ⟨g, 1, none⟩ = some (.slice (some ⟨h, 0, none⟩) n cap)
  hq : Hq wr (.slice (some ⟨h, 0, none⟩) n cap) n f'
  bt : But h w wr
theorem Fu.drewN {w wr : World} {g h n cap : Nat} {f f' : Nat → Int} (x : Fu w wr g h n cap f f') (m : Nat) : Fu w (wr.drewN m) g h n cap f f' := by
  induction m with
  | zero => exact x
  | succ m ih => exact ⟨ih.c1, ih.hq, ih.bt.drew⟩
theorem Fu.swap {w wr w' : World} {g h n cap : Nat} {f f' f'' : Nat → Int} (x : Fu w wr g h n cap f f') (hne : h ≠ g) (q : Hq w' (.slice (some ⟨h, 0, none⟩) n cap) n f'') (b : But h wr w') : Fu w w' g h n cap f f'' :=
  ⟨(b.cell (p := ⟨g, 1, none⟩) (lt_of_cell x.c1) (fun e => hne e.symm)).trans x.c1, q, x.bt.trans b⟩
set_option maxRecDepth 100000 in
theorem up_any {w : World} {g h n cap : Nat} {f : Nat → Int} (hu : Fu w w g h n cap f f) (hne : h ≠ g) (hn : n ≤ 100001) (j : Nat) (hj : j < n) (hU : Up n f j) :
    Calls Tryd.prog 46 #[.iface 64 (.pointer (some ⟨g, 1, none⟩)), .int .i64 (j : Int)] w fun e w' => e = .returned (.tuple #[]) ∧ ∃ f', Fu w w' g h n cap f f' ∧ Pm n f f' ∧ Hp n f' := by
  have HU := Lib.hid hu
  have HUp := Lib.hid hU
  clear hu hU
  go_enter Tryd.func46, Tryd.ntmps46
  go_wp2_with fail
  go_loopw [1, 4] (fun v1 _ wr => ∃ (j : Nat) (f' : Nat → Int), v1 = .int .i64 (j : Int) ∧ j < n ∧ Fu w wr g h n cap f f' ∧ Pm n f f' ∧ Up n f' j) (fun v1 _ _ => (intOf v1).toNat)
  case atStart => exact ⟨j, f, rfl, hj, HU.out, Pm.refl _ _, HUp.out⟩
  case round =>
    clear HU HUp hj j
    obtain ⟨j, f', rfl, hj, hF, hP, hU⟩ := hrel
    have hm := m_less hF.c1
    have HF := Lib.hid hF
    have HP := Lib.hid hP
    have HU := Lib.hid hU
    by_cases h0 : j = 0
    · subst h0
      clear hF hP hU
      go_wp2
      go_end0
      exact ⟨rfl, f', HF.out, HP.out, up_done HU.out (Or.inl rfl)⟩
    · have hpl : (j - 1) / 2 < n := by omega
      have CL := l_less hF.hq j ((j - 1) / 2) hj hpl
      clear hF hP hU
      have e1 : IntKind.i64.wrap ((j : Int) - 1) = (j : Int) - 1 := i64_small (by omega) (by omega)
      generalize hp : (j - 1) / 2 = p at *
      have e2 : ((j : Int) - 1).tdiv 2 = (p : Int) := by
        rw [Int.tdiv_eq_ediv_of_nonneg (by omega)]
        omega
      have e3 : IntKind.i64.wrap (p : Int) = (p : Int) := i64_small (by omega) (by omega)
      have e4 : ((p : Int) == (j : Int)) = false := by simp; omega
      have e5 : ((p : Int) = (j : Int)) = False := by simp; omega
      go_wp2_with fail
      refine CL.mono ?_
      rintro e w1 ⟨rfl, m, rfl⟩
      clear CL hm
      have hF1 := HF.out.drewN m
      by_cases hl : f' j < f' p
      · have td : decide (f' j < f' p) = true := by simp [hl]
        have hm := m_swap hF1.c1
        have CS := l_swap hF1.hq p j hpl hj
        have HF1 := Lib.hid hF1
        have HL := Lib.hid hl
        clear hF1 HF hl
        generalize wr.drewN m = w2 at *
        go_wp2_with fail
        refine CS.mono ?_
        rintro e w3 ⟨rfl, hq3, hb3⟩
        clear CS hm
        have HF3 := Lib.hid (HF1.out.swap hne hq3 hb3)
        clear hq3 hb3
        go_wp2_with fail
        go_roundw
        case rel =>
          have hu := up_step HU.out (by omega) hj (by rw [hp]; exact HL.out)
          rw [hp] at hu
          exact ⟨p, swf f' p j, rfl, hpl, HF3.out, HP.out.trans (pm_sw f' hpl hj), hu⟩
        case measure =>
          simp [intOf]
          omega
      · have td : decide (f' j < f' p) = false := by simp [hl]
        have HF1 := Lib.hid hF1
        have HL := Lib.hid hl
        clear hF1 HF hl
        generalize wr.drewN m = w2 at *
        go_wp2
        go_end0
        exact ⟨rfl, f', HF1.out, HP.out, up_done HU.out (Or.inr (by rw [hp]; have := HL.out; omega))⟩
set_option maxRecDepth 100000 in
set_option maxHeartbeats 2000000 in
theorem down_any {w : World} {g h n cap M : Nat} {f : Nat → Int} (hu : Fu w w g h n cap f f) (hne : h ≠ g) (hn : n ≤ 100001) (hM : M ≤ n) (hD : Dn M f 0) :
    Calls Tryd.prog 63 #[.iface 64 (.pointer (some ⟨g, 1, none⟩)), .int .i64 0, .int .i64 (M : Int)] w fun e w' => (∃ b, e = .returned (.bool b)) ∧ ∃ f', Fu w w' g h n cap f f' ∧ Pm M f f' ∧ Hp M f' := by
  have HU := Lib.hid hu
  have HDn := Lib.hid hD
  clear hu hD
  go_enter Tryd.func63, Tryd.ntmps63
  go_wp2_with fail
  go_loopw [7, 8, 9, 10] (fun v7 _ _ _ wr => ∃ (i : Nat) (f' : Nat → Int), v7 = .int .i64 (i : Int) ∧ (i < M ∨ i = 0) ∧ Fu w wr g h n cap f f' ∧ Pm M f f' ∧ Dn M f' i) (fun v7 _ _ _ _ => M - (intOf v7).toNat)
  case atStart => exact ⟨0, f, rfl, Or.inr rfl, HU.out, Pm.refl _ _, HDn.out⟩
  case round =>
    clear HU HDn
    obtain ⟨i, f', rfl, hi, hF, hP, hD⟩ := hrel
    have hm := m_less hF.c1
    have HF := Lib.hid hF
    have HP := Lib.hid hP
    have HD := Lib.hid hD
    have e1 : IntKind.i64.wrap (2 * (i : Int)) = 2 * (i : Int) := i64_small (by omega) (by omega)
    have e2 : IntKind.i64.wrap (2 * (i : Int) + 1) = ((2 * i + 1 : Nat) : Int) := by rw [i64_small (by omega) (by omega)]; omega
    have e3 : IntKind.i64.wrap (((2 * i + 1 : Nat) : Int) + 1) = ((2 * i + 2 : Nat) : Int) := by rw [i64_small (by omega) (by omega)]; omega
    by_cases h1 : M ≤ 2 * i + 1
    · have HE : Hid (Hp M f') := dn_done hD (fun k k0 kM kp => by omega)
      clear hF hP hD
      have t1 : ((M : Int) ≤ ((2 * i + 1 : Nat) : Int)) = True := by simp; omega
      generalize hj1 : 2 * i + 1 = j1 at *
      go_wp2
      go_ret
      exact ⟨⟨_, rfl⟩, f', HF.out, HP.out, HE.out⟩
    · have t1 : ((M : Int) ≤ ((2 * i + 1 : Nat) : Int)) = False := by simp; omega
      have t2 : (((2 * i + 1 : Nat) : Int) < 0) = False := by simp; omega
      clear hF hP hD
      generalize hj1 : 2 * i + 1 = j1 at *
      generalize hj2 : 2 * i + 2 = j2 at *
      by_cases h2 : j2 < M
      · have t3 : ((j2 : Int) < (M : Int)) = True := by simp; omega
        have CL := l_less HF.out.hq j2 j1 (by omega) (by omega)
        go_wp2_with fail
        refine CL.mono ?_
        rintro e w1 ⟨rfl, m, rfl⟩
        clear CL hm
        have HF2 := Lib.hid (HF.out.drewN m)
        clear HF
        generalize World.drewN _ m = w2 at *
        by_cases hl : f' j2 < f' j1
        · have td : decide (f' j2 < f' j1) = true := by simp [hl]
          have HO : Hid (∀ k, 0 < k → k < M → (k - 1) / 2 = i → f' j2 ≤ f' k) := fun k k0 kM kp => by
            have : k = j1 ∨ k = j2 := by omega
            rcases this with e | e <;> rw [e] <;> omega
          clear hl
          have hm := m_less HF2.out.c1
          have CL := l_less HF2.out.hq j2 i (by omega) (by omega)
          go_wp2_with fail
          refine CL.mono ?_
          rintro e w4 ⟨rfl, m, rfl⟩
          clear CL hm
          have HF4 := Lib.hid (HF2.out.drewN m)
          clear HF2
          generalize World.drewN _ m = w4 at *
          by_cases hl : f' j2 < f' i
          · have td : decide (f' j2 < f' i) = true := by simp [hl]
            have hm := m_swap HF4.out.c1
            have CS := l_swap HF4.out.hq i j2 (by omega) (by omega)
            have HL := Lib.hid hl
            clear hl
            go_wp2_with fail
            refine CS.mono ?_
            rintro e w5 ⟨rfl, hq5, hb5⟩
            clear CS hm
            have HF5 := Lib.hid (HF4.out.swap hne hq5 hb5)
            clear hq5 hb5
            go_wp2_with fail
            go_roundw
            case rel => exact ⟨j2, swf f' i j2, rfl, Or.inl (by omega), HF5.out, HP.out.trans (pm_sw f' (by omega) (by omega)), dn_step HD.out (by omega) (by omega) (by omega) HL.out HO.out⟩
            case measure =>
              simp [intOf]
              omega
          · have td : decide (f' j2 < f' i) = false := by simp [hl]
            have HE : Hid (Hp M f') := dn_done HD.out (fun k k0 kM kp => by have := HO.out k k0 kM kp; omega)
            clear hl
            go_wp2
            go_ret
            exact ⟨⟨_, rfl⟩, f', HF4.out, HP.out, HE.out⟩
        · have td : decide (f' j2 < f' j1) = false := by simp [hl]
          have HO : Hid (∀ k, 0 < k → k < M → (k - 1) / 2 = i → f' j1 ≤ f' k) := fun k k0 kM kp => by
            have : k = j1 ∨ k = j2 := by omega
            rcases this with e | e <;> rw [e] <;> omega
          clear hl
          have hm := m_less HF2.out.c1
          have CL := l_less HF2.out.hq j1 i (by omega) (by omega)
          go_wp2_with fail
          refine CL.mono ?_
          rintro e w4 ⟨rfl, m, rfl⟩
          clear CL hm
          have HF4 := Lib.hid (HF2.out.drewN m)
          clear HF2
          generalize World.drewN _ m = w4 at *
          by_cases hl : f' j1 < f' i
          · have td : decide (f' j1 < f' i) = true := by simp [hl]
            have hm := m_swap HF4.out.c1
            have CS := l_swap HF4.out.hq i j1 (by omega) (by omega)
            have HL := Lib.hid hl
            clear hl
            go_wp2_with fail
            refine CS.mono ?_
            rintro e w5 ⟨rfl, hq5, hb5⟩
            clear CS hm
            have HF5 := Lib.hid (HF4.out.swap hne hq5 hb5)
            clear hq5 hb5
            go_wp2_with fail
            go_roundw
            case rel => exact ⟨j1, swf f' i j1, rfl, Or.inl (by omega), HF5.out, HP.out.trans (pm_sw f' (by omega) (by omega)), dn_step HD.out (by omega) (by omega) (by omega) HL.out HO.out⟩
            case measure =>
              simp [intOf]
              omega
          · have td : decide (f' j1 < f' i) = false := by simp [hl]
            have HE : Hid (Hp M f') := dn_done HD.out (fun k k0 kM kp => by have := HO.out k k0 kM kp; omega)
            clear hl
            go_wp2
            go_ret
            exact ⟨⟨_, rfl⟩, f', HF4.out, HP.out, HE.out⟩
      · have t3 : ((j2 : Int) < (M : Int)) = False := by simp; omega
        have HF2 := Lib.hid HF.out
        have HO : Hid (∀ k, 0 < k → k < M → (k - 1) / 2 = i → f' j1 ≤ f' k) := fun k k0 kM kp => by
          have : k = j1 := by omega
          rw [this]
          exact Int.le_refl _
        clear HF hm
        have hm := m_less HF2.out.c1
        have CL := l_less HF2.out.hq j1 i (by omega) (by omega)
        go_wp2_with fail
        refine CL.mono ?_
        rintro e w4 ⟨rfl, m, rfl⟩
        clear CL hm
        have HF4 := Lib.hid (HF2.out.drewN m)
        clear HF2
        generalize World.drewN _ m = w4 at *
        by_cases hl : f' j1 < f' i
        · have td : decide (f' j1 < f' i) = true := by simp [hl]
          have hm := m_swap HF4.out.c1
          have CS := l_swap HF4.out.hq i j1 (by omega) (by omega)
          have HL := Lib.hid hl
          clear hl
          go_wp2_with fail
          refine CS.mono ?_
          rintro e w5 ⟨rfl, hq5, hb5⟩
          clear CS hm
          have HF5 := Lib.hid (HF4.out.swap hne hq5 hb5)
          clear hq5 hb5
          go_wp2_with fail
          go_roundw
          case rel => exact ⟨j1, swf f' i j1, rfl, Or.inl (by omega), HF5.out, HP.out.trans (pm_sw f' (by omega) (by omega)), dn_step HD.out (by omega) (by omega) (by omega) HL.out HO.out⟩
          case measure =>
            simp [intOf]
            omega
        · have td : decide (f' j1 < f' i) = false := by simp [hl]
          have HE : Hid (Hp M f') := dn_done HD.out (fun k k0 kM kp => by have := HO.out k k0 kM kp; omega)
          clear hl
          go_wp2
          go_ret
          exact ⟨⟨_, rfl⟩, f', HF4.out, HP.out, HE.out⟩
end Go.Proofs.YtbnmnmbfdfgohaaDoor
