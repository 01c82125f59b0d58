/-
  The walk of LettersRepeat.
-/
import Derived.Test.YtcbjncnhhpappaaDoorLeRep
namespace Go.Proofs.YtcbjncnhhpappaaDoor
open Go.RowKit Go.Lib


set_option maxHeartbeats 8000000 in
set_option maxRecDepth 100000 in
theorem repeat_walk (s : ByteArray) (n : Int) (w : World) (hE : Env w) :
    Calls Tryd.prog 5 #[.string s, .int .i64 n] w fun e w' => e = .returned (.bool true) ∧ Below w.heap.size w w' := by
  by_cases h1 : s.size ≤ 3000
  · have i1 : ¬ (3000 : Int) < (s.size : Int) := by omega
    have cA := repeat_any s n w h1
    have cB := fun w => refRepeat_any s n w h1
    have cL := fun w => len_any s w (by omega)
    have cG := fun w (h : Env w) => good_any s w (by omega) h
    by_cases hn : n < 1
    · have e1 : repB s.data.toList n = [] := by unfold repB; rw [if_pos (.inl hn)]
      have e2 : repE s.data.toList n = 0 := by unfold repE; rw [if_pos (.inl hn)]
      rw [e1, e2] at cA
      simp only [e1, e2] at cB
      have HB := Lib.hid cB
      clear cB cL cG e1 e2
      go_enter Tryd.func5, Tryd.ntmps5
      go_wp2_with fail
      refine cA.mono ?_
      rintro e w1 ⟨rfl, b1⟩
      go_wp2_with fail
      refine (HB.out w1).mono ?_
      rintro e w2 ⟨rfl, b2⟩
      have e2 := (hE.below b1).below b2
      replace b2 := b1.trans (b2.mono b1.size)
      go_wp2_with fail
      refine (awake_any _ e2).mono ?_
      rintro e w3 ⟨rfl, b3⟩
      go_wp2
      go_ret
      exact ⟨rfl, b2.trans (b3.mono b2.size)⟩
    · by_cases h0 : s.size = 0
      · have hl : s.data.toList = [] := List.eq_nil_of_length_eq_zero (by rw [str_len]; exact h0)
        have e1 : repB s.data.toList n = [] := by unfold repB; rw [if_pos (.inr hl)]
        have e2 : repE s.data.toList n = 0 := by unfold repE; rw [if_pos (.inr hl)]
        rw [e1, e2] at cA
        simp only [e1, e2] at cB
        have cM := fun w => len_any ⟨([] : List UInt8).toArray⟩ w (by decide)
        rw [hl] at cL cG
        have cM2 : ∀ w, Calls Tryd.prog 14 #[.string ⟨([] : List UInt8).toArray⟩] w fun e w' => e = .returned (.int .i64 0) ∧ Below w.heap.size w w' := cM
        have cL2 : ∀ w, Calls Tryd.prog 14 #[.string s] w fun e w' => e = .returned (.int .i64 0) ∧ Below w.heap.size w w' := cL
        have cG2 : ∀ w, Env w → Calls Tryd.prog 12 #[.string s] w fun e w' => e = .returned (.bool true) ∧ Below w.heap.size w w' := cG
        have HB := Lib.hid cB
        have HL := Lib.hid cL2
        have HM := Lib.hid cM2
        have HG := Lib.hid cG2
        clear cB cL cG cM cL2 cM2 cG2 e1 e2 hl
        go_enter Tryd.func5, Tryd.ntmps5
        go_wp2_with fail
        refine cA.mono ?_
        rintro e w1 ⟨rfl, b1⟩
        go_wp2_with fail
        refine (HB.out w1).mono ?_
        rintro e w2 ⟨rfl, b2⟩
        have e2 := (hE.below b1).below b2
        replace b2 := b1.trans (b2.mono b1.size)
        go_wp2_with fail
        refine (HG.out w2 e2).mono ?_
        rintro e w3 ⟨rfl, b3⟩
        have e3 := e2.below b3
        replace b3 := b2.trans (b3.mono b2.size)
        go_wp2_with fail
        refine (HM.out w3).mono ?_
        rintro e w4 ⟨rfl, b4⟩
        have e4 := e3.below b4
        replace b4 := b3.trans (b4.mono b3.size)
        go_wp2_with fail
        refine (HL.out w4).mono ?_
        rintro e w5 ⟨rfl, b5⟩
        have e5 := e4.below b5
        replace b5 := b4.trans (b5.mono b4.size)
        go_wp2_with fail
        refine (awake_any _ e5).mono ?_
        rintro e w6 ⟨rfl, b6⟩
        go_wp2
        go_ret
        exact ⟨rfl, b5.trans (b6.mono b5.size)⟩
      · have hl := list_ne s h0
        have hp := rl_pos _ hl
        have hle := rl_le s.data.toList
        rw [str_len] at hle
        have hc : ¬ (n < 1 ∨ s.data.toList = []) := fun h => h.elim hn hl
        by_cases hb : (65536 : Int) / ((rl s.data.toList).length : Int) < n
        · have e1 : repB s.data.toList n = [] := by unfold repB; rw [if_neg hc, if_pos hb]
          have e2 : repE s.data.toList n = 3 := by unfold repE; rw [if_neg hc, if_pos hb]
          rw [e1, e2] at cA
          simp only [e1, e2] at cB
          generalize (rl s.data.toList).length = N at *
          have hN0 : ((N : Int) == 0) = false := beq_eq_false_iff_ne.2 (by omega)
          have hNi : (1 : Int) ≤ (N : Int) := by omega
          have hNj : (N : Int) ≤ 3000 := by omega
          have hn0 : (0 : Int) < n := by omega
          have HB := Lib.hid cB
          have HL := Lib.hid cL
          clear cB cL cG e1 e2 hl hc
          go_enter Tryd.func5, Tryd.ntmps5
          go_wp2_with fail
          refine cA.mono ?_
          rintro e w1 ⟨rfl, b1⟩
          go_wp2_with fail
          refine (HB.out w1).mono ?_
          rintro e w2 ⟨rfl, b2⟩
          have e2 := (hE.below b1).below b2
          replace b2 := b1.trans (b2.mono b1.size)
          go_wp2_with fail
          refine (HL.out w2).mono ?_
          rintro e w3 ⟨rfl, b3⟩
          have e3 := e2.below b3
          replace b3 := b2.trans (b3.mono b2.size)
          go_wp2_with fail
          refine (HL.out w3).mono ?_
          rintro e w4 ⟨rfl, b4⟩
          have e4 := e3.below b4
          replace b4 := b3.trans (b4.mono b3.size)
          go_wp2_with fail
          refine (awake_any _ e4).mono ?_
          rintro e w6 ⟨rfl, b6⟩
          go_wp2
          go_ret
          exact ⟨rfl, b4.trans (b6.mono b4.size)⟩
        · have e1 : repB s.data.toList n = rep s.data.toList n.toNat := by unfold repB; rw [if_neg hc, if_neg hb]
          have e2 : repE s.data.toList n = 0 := by unfold repE; rw [if_neg hc, if_neg hb]
          rw [e1, e2] at cA
          simp only [e1, e2] at cB
          obtain ⟨m, rfl⟩ : ∃ m : Nat, n = m := ⟨n.toNat, by omega⟩
          have hm : m ≤ 65536 := by
            have := Int.ediv_le_self ((rl s.data.toList).length : Int) (show (0 : Int) ≤ 65536 by omega)
            omega
          rw [Int.toNat_natCast] at cA
          simp only [Int.toNat_natCast] at cB
          have hrl := rep_len s.data.toList m
          rw [str_len] at hrl
          have hms : m * s.size ≤ 200000000 := Nat.le_trans (Nat.mul_le_mul hm h1) (by decide)
          have hXs : (ByteArray.mk (rep s.data.toList m).toArray).size = m * s.size := by rw [← hrl, ← str_len]
          have cM := fun w => len_any ⟨(rep s.data.toList m).toArray⟩ w (by omega)
          rw [show (ByteArray.mk (rep s.data.toList m).toArray).data.toList = rep s.data.toList m from rfl] at cM
          have hgood := rl_rep s.data.toList
          have hln : (rl (rep s.data.toList m)).length ≤ 200000000 := by
            have := rl_le (rep s.data.toList m)
            omega
          generalize ByteArray.mk (rep s.data.toList m).toArray = X at *
          obtain ⟨N, hN⟩ : ∃ N, (rl s.data.toList).length = N := ⟨_, rfl⟩
          obtain ⟨M, hM⟩ : ∃ M, (rl (rep s.data.toList m)).length = M := ⟨_, rfl⟩
          rw [hM] at hln
          simp only [hN] at cL hgood
          simp only [hM] at cM
          have hmN : m * N ≤ 200000000 := Nat.le_trans (Nat.mul_le_mul hm (show N ≤ 3000 by omega)) (by decide)
          obtain ⟨K, hK⟩ : ∃ K, m * N = K := ⟨_, rfl⟩
          have hmul : (m : Int) * (N : Int) = (K : Int) := by rw [← hK]; simp
          have hKb : K ≤ 200000000 := by omega
          cases hv : validD s.data.toList with
          | false =>
            rw [hv] at cG
            have HB := Lib.hid cB
            have HG := Lib.hid cG
            clear cB cL cG cM e1 e2 hl hc hgood hXs hrl hK hM hN hmul hb
            go_enter Tryd.func5, Tryd.ntmps5
            go_wp2_with fail
            refine cA.mono ?_
            rintro e w1 ⟨rfl, b1⟩
            go_wp2_with fail
            refine (HB.out w1).mono ?_
            rintro e w2 ⟨rfl, b2⟩
            have e2 := (hE.below b1).below b2
            replace b2 := b1.trans (b2.mono b1.size)
            go_wp2_with fail
            refine (HG.out w2 e2).mono ?_
            rintro e w3 ⟨rfl, b3⟩
            have e3 := e2.below b3
            replace b3 := b2.trans (b3.mono b2.size)
            go_wp2_with fail
            refine (awake_any _ e3).mono ?_
            rintro e w6 ⟨rfl, b6⟩
            go_wp2
            go_ret
            exact ⟨rfl, b3.trans (b6.mono b3.size)⟩
          | true =>
            rw [hv] at cG
            have hMK : M = K := by rw [← hM, hgood hv m, hK]
            subst hMK
            have HB := Lib.hid cB
            have HG := Lib.hid cG
            have HL := Lib.hid cL
            have HM := Lib.hid cM
            clear cB cL cG cM e1 e2 hl hc hgood hXs hrl hK hM hN hb hv
            go_enter Tryd.func5, Tryd.ntmps5
            go_wp2_with fail
            refine cA.mono ?_
            rintro e w1 ⟨rfl, b1⟩
            go_wp2_with fail
            refine (HB.out w1).mono ?_
            rintro e w2 ⟨rfl, b2⟩
            have e2 := (hE.below b1).below b2
            replace b2 := b1.trans (b2.mono b1.size)
            go_wp2_with fail
            refine (HG.out w2 e2).mono ?_
            rintro e w3 ⟨rfl, b3⟩
            have e3 := e2.below b3
            replace b3 := b2.trans (b3.mono b2.size)
            go_wp2_with fail
            refine (HM.out w3).mono ?_
            rintro e w4 ⟨rfl, b4⟩
            have e4 := e3.below b4
            replace b4 := b3.trans (b4.mono b3.size)
            go_wp2_with fail
            refine (HL.out w4).mono ?_
            rintro e w5 ⟨rfl, b5⟩
            have e5 := e4.below b5
            replace b5 := b4.trans (b5.mono b4.size)
            go_wp2_with fail
            refine (awake_any _ e5).mono ?_
            rintro e w6 ⟨rfl, b6⟩
            go_wp2
            go_ret
            exact ⟨rfl, b5.trans (b6.mono b5.size)⟩
  · have i1 : (3000 : Int) < (s.size : Int) := by omega
    go_enter Tryd.func5, Tryd.ntmps5
    go_wp2_with fail
    refine (awake_any w hE).mono ?_
    rintro e w1 ⟨rfl, hb⟩
    go_wp2
    go_ret
    exact ⟨rfl, hb⟩
end Go.Proofs.YtcbjncnhhpappaaDoor
