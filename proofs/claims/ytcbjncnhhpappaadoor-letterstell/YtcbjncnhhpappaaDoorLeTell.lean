/-
  The walk of LettersTell.
-/
import Derived.Test.YtcbjncnhhpappaaDoorLeAwake
namespace Go.Proofs.YtcbjncnhhpappaaDoor
open Go.RowKit Go.Lib

theorem contains_self (l : List UInt8) : Lib.contains l l = true := by
  unfold Lib.contains
  rw [index_self]
  decide
theorem contains_nil (l : List UInt8) : Lib.contains l [] = true := by
  unfold Lib.contains
  rw [index_empty]
  decide

set_option maxHeartbeats 4000000 in
set_option maxRecDepth 100000 in
theorem tell_far (s p : ByteArray) (i : Int) (w : World) (hE : Env w) (h : 3000 < s.size ∨ 3000 < p.size) :
    Calls Tryd.prog 3 #[.string s, .string p, .int .i64 i] w fun e w' => e = .returned (.bool true) ∧ Below w.heap.size w w' := by
  by_cases h1 : 3000 < s.size
  · have i1 : (3000 : Int) < (s.size : Int) := by omega
    clear h
    go_enter Tryd.func3, Tryd.ntmps3
    go_wp2_with fail
    refine (awake_any w hE).mono ?_
    rintro e w1 ⟨rfl, hb⟩
    go_wp2
    go_ret
    exact ⟨rfl, hb⟩
  · have i1 : ¬ (3000 : Int) < (s.size : Int) := by omega
    have i2 : (3000 : Int) < (p.size : Int) := by omega
    clear h
    go_enter Tryd.func3, Tryd.ntmps3
    go_wp2_with fail
    refine (awake_any w hE).mono ?_
    rintro e w1 ⟨rfl, hb⟩
    go_wp2
    go_ret
    exact ⟨rfl, hb⟩

set_option maxHeartbeats 8000000 in
set_option maxRecDepth 100000 in
theorem tell_near (s p : ByteArray) (i : Int) (w : World) (hE : Env w) (h1 : s.size ≤ 3000) (h2 : p.size ≤ 3000) :
    Calls Tryd.prog 3 #[.string s, .string p, .int .i64 i] w fun e w' => e = .returned (.bool true) ∧ Below w.heap.size w w' := by
  have i1 : ¬ (3000 : Int) < (s.size : Int) := by omega
  have i2 : ¬ (3000 : Int) < (p.size : Int) := by omega
  have cA := at_any s i w (by omega)
  have cB := fun w => refAt_any s i w (by omega)
  have cC := fun w (h : Env w) => good_any s w (by omega) h
  have cD := fun w => refGood_any s w (by omega)
  have cF := fun w => len_any s w (by omega)
  have cG := fun w => refLen_any s w (by omega)
  have cH := fun w (h : Env w) => has_any s p w (by omega) h
  have cI := fun w => refHas_any s p w (by omega) (by omega)
  have cJ := fun w (h : Env w) => has_any s s w (by omega) h
  have cK := fun w (h : Env w) => has_any s ⟨#[]⟩ w (by omega) h
  rw [contains_self] at cJ
  rw [show (ByteArray.mk #[]).data.toList = [] from rfl, contains_nil] at cK
  obtain ⟨AB, hAB⟩ : ∃ x, atB (rl s.data.toList) i = x := ⟨_, rfl⟩
  obtain ⟨AE, hAE⟩ : ∃ x, atE (rl s.data.toList) i = x := ⟨_, rfl⟩
  obtain ⟨N, hN⟩ : ∃ x, ((rl s.data.toList).length : Int) = x := ⟨_, rfl⟩
  obtain ⟨G, hG⟩ : ∃ x, validD s.data.toList = x := ⟨_, rfl⟩
  obtain ⟨C, hC⟩ : ∃ x, Lib.contains s.data.toList p.data.toList = x := ⟨_, rfl⟩
  rw [hAB, hAE] at cA
  simp only [hAB, hAE] at cB
  simp only [hG] at cC cD
  simp only [hN] at cF cG
  simp only [hC] at cH cI
  clear hAB hAE hN hG hC
  have HB := Lib.hid cB
  have HC := Lib.hid cC
  have HD := Lib.hid cD
  have HF := Lib.hid cF
  have HG := Lib.hid cG
  have HH := Lib.hid cH
  have HI := Lib.hid cI
  have HJ := Lib.hid cJ
  have HK := Lib.hid cK
  clear cB cC cD cF cG cH cI cJ cK
  go_enter Tryd.func3, Tryd.ntmps3
  go_wp2_with fail
  refine cA.mono ?_
  rintro e w1 ⟨rfl, b1⟩
  go_wp2_with fail
  refine (HB.out w1).mono ?_
  rintro e w2 ⟨rfl, b2⟩
  have e2 := (hE.below b1).below b2
  replace b2 := b1.trans (b2.mono b1.size)
  go_wp2_with fail
  refine (HC.out w2 e2).mono ?_
  rintro e w3 ⟨rfl, b3⟩
  have e3 := e2.below b3
  replace b3 := b2.trans (b3.mono b2.size)
  go_wp2_with fail
  refine (HD.out w3).mono ?_
  rintro e w4 ⟨rfl, b4⟩
  have e4 := e3.below b4
  replace b4 := b3.trans (b4.mono b3.size)
  go_wp2_with fail
  refine (HF.out w4).mono ?_
  rintro e w5 ⟨rfl, b5⟩
  have e5 := e4.below b5
  replace b5 := b4.trans (b5.mono b4.size)
  go_wp2_with fail
  refine (HG.out w5).mono ?_
  rintro e w6 ⟨rfl, b6⟩
  have e6 := e5.below b6
  replace b6 := b5.trans (b6.mono b5.size)
  clear b1 b2 b3 b4 b5 e2 e3 e4 e5
  go_wp2_with fail
  refine (HH.out w6 e6).mono ?_
  rintro e w7 ⟨rfl, rfl⟩
  go_wp2_with fail
  refine (HI.out _).mono ?_
  rintro e w8 ⟨rfl, rfl⟩
  go_wp2_with fail
  refine (HJ.out _ e6).mono ?_
  rintro e w9 ⟨rfl, rfl⟩
  go_wp2_with fail
  refine (HK.out _ e6).mono ?_
  rintro e wa ⟨rfl, rfl⟩
  go_wp2_with fail
  refine (awake_any _ e6).mono ?_
  rintro e wb ⟨rfl, b7⟩
  go_wp2
  go_ret
  exact ⟨rfl, b6.trans (b7.mono b6.size)⟩

theorem tell_walk (s p : ByteArray) (i : Int) (w : World) (hE : Env w) :
    Calls Tryd.prog 3 #[.string s, .string p, .int .i64 i] w fun e w' => e = .returned (.bool true) ∧ Below w.heap.size w w' := by
  by_cases h : s.size ≤ 3000 ∧ p.size ≤ 3000
  · exact tell_near s p i w hE h.1 h.2
  · exact tell_far s p i w hE (by omega)
end Go.Proofs.YtcbjncnhhpappaaDoor
