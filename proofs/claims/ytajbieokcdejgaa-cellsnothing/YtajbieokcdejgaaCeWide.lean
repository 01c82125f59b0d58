/-
  awake; CellsWide, walked.
-/
import Derived.Test.YtajbieokcdejgaaCePlays
namespace Go.Proofs.Ytajbieokcdejgaa
open Go.RowKit Go.WideShapes

set_option maxRecDepth 100000 in
set_option maxHeartbeats 2000000 in
theorem awake_any (w : World) : Calls Try.prog 8 #[] w fun e w' => e = .returned (.bool true) ∧ Below w.heap.size w w' := by
  have C1 : Calls Try.prog 9 #[.int .i64 3] w _ := new_any (L := 3) (S := 8) ⟨rfl, by decide, by decide⟩ w
  go_enter Try.func8, Try.ntmps8
  go_wp2_with fail
  refine C1.mono ?_
  rintro e w1 ⟨g, r, h, rfl, hg, hr, hh, hC, hb⟩
  clear C1
  have CS := sizeM_any hC
  have CR := room_any hC
  rw [show rm 8 = 5 from rfl] at CR
  have C4 := setM_any hC 0 4
  rw [show sE 8 0 4 = 0 by decide] at C4
  have HB := Lib.hid hb
  clear hC hb
  go_wp2_with fail
  refine CS.mono ?_
  rintro e w2 ⟨rfl, rfl⟩
  clear CS
  go_wp2_with fail
  refine CR.mono ?_
  rintro e w2 ⟨rfl, rfl⟩
  clear CR
  go_wp2_with fail
  refine C4.mono ?_
  rintro e w3 ⟨rfl, hC3, hb3⟩
  have HB3 := Lib.hid (HB.out.trans (hb3.below hh HB.out.size))
  clear C4 HB hb3
  have C5 := setM_any hC3 0 5
  rw [show sE 8 0 5 = 1 by decide] at C5
  clear hC3
  go_wp2_with fail
  refine C5.mono ?_
  rintro e w4 ⟨rfl, hC4, hb4⟩
  have HB4 := Lib.hid (HB3.out.trans (hb4.below hh HB3.out.size))
  clear C5 HB3 hb4 hC4
  go_wp2
  go_ret
  exact ⟨rfl, HB4.out⟩
set_option maxRecDepth 100000 in
set_option maxHeartbeats 4000000 in
theorem wideLaw_near {L S : Nat} (hS : Sz L S) (hL : 13 ≤ L) (a : Option Addr) (n cap b off : Nat) (K M : Nat → Int) (w : World) (hs : Ss w a n cap b off K M) (hn : n ≤ 300) :
    Calls Try.prog 4 #[.int .i64 (L : Int), .slice a n cap] w fun e w' => e = .returned (.bool true) ∧ Below w.heap.size w w' := by
  have i1 : ¬ (300 : Int) < (n : Int) := by omega
  have i2 : ¬ (L : Int) < 13 := by omega
  have hle := hS.le
  have i3 : ¬ 20 < (L : Int) := by omega
  have C1 := new_any hS w
  have HSZ := Lib.hid hS
  have HSS := Lib.hid hs
  have hp := hS.pos
  have hnc := hs.le
  clear hS hs hL
  go_enter Try.func4, Try.ntmps4
  go_wp2_with fail
  refine C1.mono ?_
  rintro e w1 ⟨g, r, h, rfl, hg, hr, hh, hC, hb1⟩
  clear C1
  have C2 := rnew_any HSZ.out w1
  go_wp2_with fail
  refine C2.mono ?_
  rintro e w2 ⟨q, rfl, hq, hR, hb2⟩
  clear C2
  unfold rv
  obtain ⟨w3, hw3⟩ : ∃ w3, w2.alloc (.cells #[.int .i64 (L : Int), .slice (some ⟨q, 0, none⟩) S S] 30) = w3 := ⟨_, rfl⟩
  have hk0 : w3.cell? ⟨w2.heap.size, 0, none⟩ = some (.int .i64 (L : Int)) := by rw [← hw3]; exact cell_new0 _ _ _ _
  have hk1 : w3.cell? ⟨w2.heap.size, 1, none⟩ = some (.slice (some ⟨q, 0, none⟩) S S) := by rw [← hw3]; exact cell_new1 _ _ _ _
  have hb3 : Below w2.heap.size w2 w3 := by rw [← hw3]; exact (Below.refl _ w2).alloc (Nat.le_refl _) _
  have hC3 := (hC.below hb2).below hb3
  have hR3 := hR.below (by omega) hb3
  have HBW := Lib.hid ((hb1.trans (hb2.mono hb1.size)).trans (hb3.mono (Nat.le_trans hb1.size hb2.size)))
  have hz1 := hb1.size
  have CA := alike_any hC3 q
  unfold rv at CA
  have HC := Lib.hid hC3
  have HR := Lib.hid hR3
  clear hb1 hb2 hb3 hC hR hC3 hR3
  go_wp2_with fail
  refine CA.mono ?_
  rintro e w4 ⟨rfl, hb4⟩
  clear CA hw3
  have k0 := (hb4.cell (p := ⟨w2.heap.size, 0, none⟩) (lt_of_cell hk0)).trans hk0
  have k1 := (hb4.cell (p := ⟨w2.heap.size, 1, none⟩) (lt_of_cell hk0)).trans hk1
  have HB4 := Lib.hid (HBW.out.trans (hb4.mono HBW.out.size))
  have hC4 := HC.out.below hb4
  have hR4 := HR.out.below (by omega) hb4
  have HP : Hid (0 < n → b < w.heap.size) := fun h0 => (HSS.out.pl h0).2
  have CP : Calls Try.prog 12 #[.pointer (some ⟨g, 0, none⟩), rv L q S, .slice a n cap] w4 fun e w' => e = .returned (.bool true) ∧ Below w.heap.size w w' := by
    by_cases h0 : 0 < n
    · have hb0 := HP.out h0
      refine (plays_any hC4 hR4 a n cap b off K M ?_ hn (by omega) (by omega)).mono ?_
      · exact ⟨hnc, fun h0 => ⟨(HSS.out.pl h0).1, Nat.lt_of_lt_of_le (HSS.out.pl h0).2 HB4.out.size⟩, fun i hi => (HB4.out.cell (p := ⟨b, off + i * 2, none⟩) hb0).trans (HSS.out.c0 i hi), fun i hi => (HB4.out.cell (p := ⟨b, off + i * 2 + 1, none⟩) hb0).trans (HSS.out.c1 i hi)⟩
      · rintro e w5 ⟨rfl, f', _, _, hb5⟩
        exact ⟨rfl, HB4.out.trans (hb5.below (by omega) (by omega) HB4.out.size)⟩
    · obtain ⟨b', hb'⟩ : ∃ b' : Nat, b' ≠ h ∧ b' ≠ q := ⟨h + q + 1, by omega, by omega⟩
      refine (plays_any hC4 hR4 a n cap b' off K M ⟨hnc, fun h => absurd h h0, fun i hi => absurd hi (by omega), fun i hi => absurd hi (by omega)⟩ hn hb'.1 hb'.2).mono ?_
      rintro e w5 ⟨rfl, f', _, _, hb5⟩
      exact ⟨rfl, HB4.out.trans (hb5.below (by omega) (by omega) HB4.out.size)⟩
  unfold rv at CP
  clear HC HR hk0 hk1 HBW hb4 hC4 hR4 HB4 HP HSS
  go_wp2_with fail
  refine CP.mono ?_
  rintro e w5 ⟨rfl, hb5⟩
  clear CP
  go_wp2_with fail
  refine (awake_any _).mono ?_
  rintro e w6 ⟨rfl, hb6⟩
  go_wp2
  go_ret
  exact ⟨rfl, hb5.trans (hb6.mono hb5.size)⟩
set_option maxRecDepth 100000 in
theorem wideLaw_walk (l : Int) (a : Option Addr) (n cap b off : Nat) (K M : Nat → Int) (w : World) (hs : Ss w a n cap b off K M) :
    Calls Try.prog 4 #[.int .i64 l, .slice a n cap] w fun e w' => e = .returned (.bool true) ∧ Below w.heap.size w w' := by
  by_cases hn : n ≤ 300
  · by_cases hl : 13 ≤ l ∧ l ≤ 20
    · obtain ⟨L, rfl⟩ : ∃ L : Nat, l = (L : Int) := ⟨l.toNat, by omega⟩
      exact wideLaw_near ⟨rfl, by omega, by omega⟩ (by omega) a n cap b off K M w hs hn
    · have i1 : ¬ (300 : Int) < (n : Int) := by omega
      by_cases i2 : l < 13
      case' neg => have i3 : 20 < l := by omega
      all_goals
        clear hl hs
        go_enter Try.func4, Try.ntmps4
        go_wp2_with fail
        refine (awake_any _).mono ?_
        rintro e w6 ⟨rfl, hb6⟩
        go_wp2
        go_ret
        exact ⟨rfl, hb6⟩
  · have i1 : (300 : Int) < (n : Int) := by omega
    clear hs
    go_enter Try.func4, Try.ntmps4
    go_wp2_with fail
    refine (awake_any _).mono ?_
    rintro e w6 ⟨rfl, hb6⟩
    go_wp2
    go_ret
    exact ⟨rfl, hb6⟩
end Go.Proofs.Ytajbieokcdejgaa
