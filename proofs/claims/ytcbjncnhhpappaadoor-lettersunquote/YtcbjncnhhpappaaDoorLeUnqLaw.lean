/-
  The walk of LettersUnquote.
-/
import Derived.Test.YtcbjncnhhpappaaDoorLeRefU
namespace Go.Proofs.YtcbjncnhhpappaaDoor
open Go.RowKit Go.Lib

/-- What Unquote answers, in three. -/
theorem unqT_parts (r : Option (List UInt8 × Nat)) : ∃ (X : ByteArray) (n e : Int), unqT r = .tuple #[.string X, .int .i64 n, .int .i64 e] := by
  cases r with
  | none => exact ⟨_, _, _, rfl⟩
  | some p => exact ⟨_, _, _, rfl⟩

set_option maxHeartbeats 8000000 in
set_option maxRecDepth 100000 in
theorem unquote_walk (s : ByteArray) (w : World) (hE : Env w) :
    Calls Tryd.prog 7 #[.string s] w fun e w' => e = .returned (.bool true) ∧ Below w.heap.size w w' := by
  by_cases h1 : s.size ≤ 3000
  · have i1 : ¬ (3000 : Int) < (s.size : Int) := by omega
    have cA := unquote_any s w (by omega) hE
    have cB := fun w => refUnquote_any s w h1
    obtain ⟨X, n, k, hX⟩ := unqT_parts (unq s.data.toList)
    rw [hX] at cA
    simp only [hX] at cB
    have HB := Lib.hid cB
    clear cB hX
    go_enter Tryd.func7, Tryd.ntmps7
    go_wp2_with fail
    refine cA.mono ?_
    rintro e w1 ⟨rfl, b1⟩
    go_wp2_with fail
    refine (HB.out w1).mono ?_
    rintro e w2 ⟨rfl, b2⟩
    have e2 := (hE.below b1).below b2
    replace b2 := b1.trans (b2.mono b1.size)
    go_wp2_with fail
    refine (awake_any _ e2).mono ?_
    rintro e w6 ⟨rfl, b6⟩
    go_wp2
    go_ret
    exact ⟨rfl, b2.trans (b6.mono b2.size)⟩
  · have i1 : (3000 : Int) < (s.size : Int) := by omega
    go_enter Tryd.func7, Tryd.ntmps7
    go_wp2_with fail
    refine (awake_any w hE).mono ?_
    rintro e w1 ⟨rfl, hb⟩
    go_wp2
    go_ret
    exact ⟨rfl, hb⟩
end Go.Proofs.YtcbjncnhhpappaaDoor
