/-
  The law's entries: two rows that hold the same.
-/
import Derived.Test.YtcehndeopcoakaaGreatPrPairs
import Derived.Test.YtcehndeopcoakaaGreatLwMem
namespace Go.Proofs.YtcehndeopcoakaaGreat
open Go.RowKit Go.WideShapes

set_option maxRecDepth 100000 in
set_option maxHeartbeats 4000000 in
theorem entries8_any (a1 a2 : Option Addr) (n c1 c2 : Nat) (es : List En) (w : World) (h1 : SlE w a1 n c1 es) (h2 : SlE w a2 n c2 es) (hl : n ≤ 1000000) :
    Calls Tryz.prog 33 #[.slice a1 n c1, .slice a2 n c2] w fun e w' => e = .returned (.bool true) ∧ Below w.heap.size w w' := by
  obtain ⟨-, k1, b1, p1, s1⟩ := h1
  obtain ⟨-, k2, b2, p2, s2⟩ := h2
  have HP1 := Lib.hid p1
  have HP2 := Lib.hid p2
  have HS1 := Lib.hid s1
  have HS2 := Lib.hid s2
  have hl0 : ((n : Int) != (n : Int)) = false := by simp
  clear p1 p2 s1 s2
  go_enter Tryz.func33, Tryz.ntmps33
  go_wp2
  go_loopw [5] (fun iv wr => ∃ k : Nat, k ≤ n ∧ iv = .int .i64 (k : Int) ∧ Below w.heap.size w wr) (fun iv _ => n - (intOf iv).toNat)
  case atStart => exact ⟨0, Nat.zero_le _, rfl, Below.refl _ _⟩
  case round =>
    obtain ⟨k, hk, rfl, hB0⟩ := hrel
    by_cases hlt : k < n
    · obtain ⟨e1, q1⟩ := HP1.out (by omega)
      obtain ⟨e2, q2⟩ := HP2.out (by omega)
      have hly : (k : Int) < (n : Int) := by omega
      have key1 : ∀ o, wr.cell? ⟨b1, o, none⟩ = w.cell? ⟨b1, o, none⟩ := fun o => hB0.cell (p := ⟨b1, o, none⟩) q1
      have key2 : ∀ o, wr.cell? ⟨b2, o, none⟩ = w.cell? ⟨b2, o, none⟩ := fun o => hB0.cell (p := ⟨b2, o, none⟩) q2
      have x0 := (key1 _).trans (HS1.out.c0 k hlt)
      have x1 := (key1 _).trans (HS1.out.c1 k hlt)
      have x2 := (key1 _).trans (HS1.out.c2 k hlt)
      have x3 := (key1 _).trans (HS1.out.c3 k hlt)
      have x4 := (key1 _).trans (HS1.out.c4 k hlt)
      have y0 := (key2 _).trans (HS2.out.c0 k hlt)
      have y1 := (key2 _).trans (HS2.out.c1 k hlt)
      have y2 := (key2 _).trans (HS2.out.c2 k hlt)
      have y3 := (key2 _).trans (HS2.out.c3 k hlt)
      have y4 := (key2 _).trans (HS2.out.c4 k hlt)
      subst e1
      subst e2
      clear key1 key2
      generalize (nth es k).live = b0 at *
      generalize (nth es k).hash = z1 at *
      generalize (nth es k).key = z2 at *
      generalize (nth es k).value = z3 at *
      generalize (nth es k).birth = z4 at *
      go_wp2_with fail
      go_region_held3 (fun V => ((V.cell? ⟨b1, k * 5, none⟩ = some (.bool b0) ∧ V.cell? ⟨b1, k * 5 + 1, none⟩ = some (.int .i64 z1)) ∧ (V.cell? ⟨b1, k * 5 + 2, none⟩ = some (.int .i64 z2) ∧ V.cell? ⟨b1, k * 5 + 3, none⟩ = some (.int .i64 z3) ∧ V.cell? ⟨b1, k * 5 + 4, none⟩ = some (.int .i64 z4))) ∧ (V.cell? ⟨b2, k * 5, none⟩ = some (.bool b0) ∧ V.cell? ⟨b2, k * 5 + 1, none⟩ = some (.int .i64 z1)) ∧ (V.cell? ⟨b2, k * 5 + 2, none⟩ = some (.int .i64 z2) ∧ V.cell? ⟨b2, k * 5 + 3, none⟩ = some (.int .i64 z3) ∧ V.cell? ⟨b2, k * 5 + 4, none⟩ = some (.int .i64 z4)))
        (first | exact ⟨⟨⟨x0, x1⟩, x2, x3, x4⟩, ⟨y0, y1⟩, y2, y3, y4⟩ | fail) (fail)
      go_wp2_with fail
      go_roundw
      case rel => exact ⟨k + 1, by omega, by go_num, hB0.drew⟩
      case measure => simp [intOf]; omega
    · have hly : ¬ (k : Int) < (n : Int) := by omega
      go_wp2
      go_ret
      exact ⟨rfl, hB0⟩
/-- An entry's five cells, with a key alone. -/
def keyW (w : World) (ge n : Nat) (b : Int) : World := ((((w.setCell ⟨ge, n * 5, none⟩ (.bool false)).setCell ⟨ge, n * 5 + 1, none⟩ (.int .i64 0)).setCell ⟨ge, n * 5 + 2, none⟩ (.int .i64 b)).setCell ⟨ge, n * 5 + 3, none⟩ (.int .i64 0)).setCell ⟨ge, n * 5 + 4, none⟩ (.int .i64 0)
theorem keyW_but (w : World) (ge n : Nat) (b : Int) : But ge w (keyW w ge n b) := by
  unfold keyW
  exact (((((But.refl ge w).setCell _ _).setCell _ _).setCell _ _).setCell _ _).setCell _ _
theorem Es.keyed {w : World} {ge cap : Nat} {es : List En} (h : Es w (.slice (some ⟨ge, 0, none⟩) es.length cap) es) (n : Nat) (hn : n < es.length) (b : Int) : Es (keyW w ge n b) (.slice (some ⟨ge, 0, none⟩) es.length cap) (es.set n ⟨false, 0, b, 0, 0⟩) := by
  have e0 : Es (w.setCell ⟨ge, n * 5 + 0, none⟩ (.bool false)) (.slice (some ⟨ge, 0, none⟩) es.length cap) (es.set n ⟨false, (nth es n).hash, (nth es n).key, (nth es n).value, (nth es n).birth⟩) := Es.put rfl h n 0 hn (by decide) (.bool false) _ rfl rfl
  have sh : ∀ (es : List En) (e : En), n < es.length → nth (es.set n e) n = e := fun es e h => by rw [nth_set h, if_pos rfl]
  have e1 := Es.put (by simp) e0 n 1 (by simpa using hn) (by decide) (.int .i64 0) ⟨false, 0, (nth es n).key, (nth es n).value, (nth es n).birth⟩ (by rw [sh _ _ hn]; rfl) rfl
  rw [List.set_set] at e1
  have e2 := Es.put (by simp) e1 n 2 (by simpa using hn) (by decide) (.int .i64 b) ⟨false, 0, b, (nth es n).value, (nth es n).birth⟩ (by rw [sh _ _ hn]; rfl) rfl
  rw [List.set_set] at e2
  have e3 := Es.put (by simp) e2 n 3 (by simpa using hn) (by decide) (.int .i64 0) ⟨false, 0, b, 0, (nth es n).birth⟩ (by rw [sh _ _ hn]; rfl) rfl
  rw [List.set_set] at e3
  have e4 := Es.put (by simp) e3 n 4 (by simpa using hn) (by decide) (.int .i64 0) ⟨false, 0, b, 0, 0⟩ (by rw [sh _ _ hn]; rfl) rfl
  rw [List.set_set, Nat.add_zero] at e4
  exact e4
end Go.Proofs.YtcehndeopcoakaaGreat
