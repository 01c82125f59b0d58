/-
  What the laws of cells call: bytes, alike, plays, awake.
-/
import Derived.Deep.RegionHeld3
import Derived.Deep.CutRange
import Derived.Test.YtajbieokcdejgaaCeRBytes
import Derived.Test.YtajbieokcdejgaaCeNew
namespace Go.Proofs.Ytajbieokcdejgaa
open Go.RowKit Go.WideShapes

/-- Bytes in a slice. -/
def SlB (w : World) (a : Option Addr) (n cap : Nat) (g : Nat → Int) : Prop := n ≤ cap ∧ ∃ b off, (0 < n → a = some ⟨b, off, none⟩ ∧ b < w.heap.size) ∧ ∀ j, j < n → w.cell? ⟨b, off + j, none⟩ = some (.int .u8 (g j))
theorem SlB.below {w w' : World} {a : Option Addr} {n cap : Nat} {g : Nat → Int} (h : SlB w a n cap g) (hb : Below w.heap.size w w') : SlB w' a n cap g := by
  obtain ⟨h2, b, off, h3, h4⟩ := h
  refine ⟨h2, b, off, fun h0 => ⟨(h3 h0).1, Nat.lt_of_lt_of_le (h3 h0).2 hb.size⟩, fun j hj => ?_⟩
  exact (hb.cell (p := ⟨b, off + j, none⟩) (h3 (by omega)).2).trans (h4 j hj)
theorem SlB.congr {w : World} {a : Option Addr} {n cap : Nat} {g g' : Nat → Int} (h : SlB w a n cap g) (e : ∀ j, j < n → g' j = g j) : SlB w a n cap g' := by
  obtain ⟨h2, b, off, h3, h4⟩ := h
  exact ⟨h2, b, off, h3, fun j hj => by rw [e j hj]; exact h4 j hj⟩
theorem Byt.open {B : Nat} {w : World} {v : Value} {m : Nat} {g : Nat → Int} (h : Byt B w v m g) : ∃ a cap b, v = .slice a m cap ∧ m ≤ cap ∧ (0 < m → a = some ⟨b, 0, none⟩ ∧ b < w.heap.size ∧ B ≤ b) ∧ (∀ j, j < m → w.cell? ⟨b, 0 + j, none⟩ = some (.int .u8 (g j))) ∧ ∀ j, 0 < m → w.frozen? ⟨b, j, none⟩ = false := by
  have h0 : w.ownsRow B 5 1 v m (bl m g) := h
  rcases h0.2 with ⟨rfl, h1⟩ | ⟨b, cap, cur, rfl, hg, hh, hc, _⟩
  · subst h1
    exact ⟨none, 0, 0, rfl, Nat.le_refl _, fun h => absurd h (by simp), fun j h => absurd h (by simp), fun j h => absurd h (by simp)⟩
  · refine ⟨_, cap, b, rfl, hc, fun _ => ⟨rfl, (Array.getElem?_eq_some_iff.1 hh).1, hg⟩, fun j hj => ?_, fun j _ => h0.frozenAt j⟩
    rw [Nat.zero_add, h0.cellAt j (by omega), bl_get _ _ _ hj]
theorem Byt.sl {B : Nat} {w : World} {v : Value} {m : Nat} {g : Nat → Int} (h : Byt B w v m g) : ∃ a cap, v = .slice a m cap ∧ SlB w a m cap g := by
  obtain ⟨a, cap, b, e, hc, hp, hs, _⟩ := h.open
  exact ⟨a, cap, e, hc, b, 0, fun h0 => ⟨(hp h0).1, (hp h0).2.1⟩, hs⟩

set_option maxRecDepth 100000 in
set_option maxHeartbeats 2000000 in
/-- bytes: two rows that hold the same. -/
theorem bytes_any (a1 a2 : Option Addr) (n c1 c2 : Nat) (g : Nat → Int) (w : World) (h1 : SlB w a1 n c1 g) (h2 : SlB w a2 n c2 g) (hl : n ≤ 5000000) :
    Calls Try.prog 13 #[.slice a1 n c1, .slice a2 n c2] w fun e w' => e = .returned (.bool true) ∧ Below w.heap.size w w' := by
  obtain ⟨k1, b1, o1, p1, s1⟩ := h1
  obtain ⟨k2, b2, o2, p2, s2⟩ := h2
  have HP1 : Hid (0 < n → a1 = some ⟨b1, o1, none⟩ ∧ b1 < w.heap.size) := p1
  have HP2 : Hid (0 < n → a2 = some ⟨b2, o2, none⟩ ∧ b2 < w.heap.size) := p2
  have hl0 : ((n : Int) != (n : Int)) = false := by simp
  clear p1 p2
  go_enter Try.func13, Try.ntmps13
  go_wp2
  go_loopw [5] (fun iv wr => ∃ k : Nat, k ≤ n ∧ iv = .int .i64 (k : Int) ∧ Below w.heap.size w wr) (fun iv _ => n - (intOf iv).toNat)
  case atStart => exact ⟨0, Nat.zero_le _, rfl, Below.refl _ _⟩
  case round =>
    obtain ⟨k, hk, rfl, hB0⟩ := hrel
    by_cases hlt : k < n
    · obtain ⟨e1, q1⟩ := HP1.out (by omega)
      obtain ⟨e2, q2⟩ := HP2.out (by omega)
      have hly : (k : Int) < (n : Int) := by omega
      have hcx : wr.cell? ⟨b1, o1 + k, none⟩ = some (.int .u8 (g k)) := (hB0.cell (p := ⟨b1, o1 + k, none⟩) q1).trans (s1 k hlt)
      have hcy : wr.cell? ⟨b2, o2 + k, none⟩ = some (.int .u8 (g k)) := (hB0.cell (p := ⟨b2, o2 + k, none⟩) q2).trans (s2 k hlt)
      subst e1
      subst e2
      generalize g k = x at hcx hcy
      have hne : (x != x) = false := by simp
      go_wp2
      go_region
      all_goals go_wp2
      all_goals go_roundw
      case rel => exact ⟨k + 1, by omega, by go_num, hB0.drew⟩
      case measure => simp [intOf]; omega
    · have hly : ¬ (k : Int) < (n : Int) := by omega
      go_wp2
      go_ret
      exact ⟨rfl, hB0⟩

theorem Cl.drew {w : World} {g r h L S : Nat} {f : Nat → Int} (hC : Cl w g r h L S f) : Cl w.drew g r h L S f := hC.same rfl rfl rfl
theorem Rf.drew {w : World} {q S : Nat} {f : Nat → Int} (h : Rf w q S f) : Rf w.drew q S f := h.same rfl
set_option maxRecDepth 100000 in
set_option maxHeartbeats 4000000 in
theorem alike_any {w : World} {g r h L S : Nat} {f : Nat → Int} (hC : Cl w g r h L S f) (q : Nat) :
    Calls Try.prog 11 #[.pointer (some ⟨g, 0, none⟩), rv L q S] w fun e w' => e = .returned (.bool true) ∧ Below w.heap.size w w' := by
  have e1 : ((L : Int) == (L : Int)) = true := by simp
  have e2 : ((S : Int) == (S : Int)) = true := by simp
  have e3 : (((rm S : Nat) : Int) == ((rm S : Nat) : Int)) = true := by simp
  have e4 : (((wd L : Nat) : Int) == ((wd L : Nat) : Int)) = true := by simp
  unfold rv
  obtain ⟨w1, hw1⟩ : ∃ w1, w.alloc (.cells #[.int .i64 (L : Int), .slice (some ⟨q, 0, none⟩) S S] 30) = w1 := ⟨_, rfl⟩
  have k0 : w1.cell? ⟨w.heap.size, 0, none⟩ = some (.int .i64 (L : Int)) := by rw [← hw1]; exact cell_new0 _ _ _ _
  have k1 : w1.cell? ⟨w.heap.size, 1, none⟩ = some (.slice (some ⟨q, 0, none⟩) S S) := by rw [← hw1]; exact cell_new1 _ _ _ _
  have hb1 : Below w.heap.size w w1 := by rw [← hw1]; exact (Below.refl _ w).alloc (Nat.le_refl _) _
  have hC1 := (hC.below hb1).drew
  have CL := log_any hC1
  have CS := sizeM_any hC1
  have CR := room_any hC1
  have CW := widthM_any hC1
  have DR := rroom_any hC.sz w1.drew
  have DW := rwidth_any hC.sz w1.drew
  have HB := Lib.hid hb1.drew
  clear hC1 hC hb1
  generalize rm S = R at *
  generalize wd L = W at *
  go_enter Try.func11, Try.ntmps11
  go_upto_region 1 with fail
  clear hw1
  go_region_held3 (fun V => V.cell? ⟨w.heap.size, 0, none⟩ = some (.int .i64 (L : Int)) ∧ V.cell? ⟨w.heap.size, 1, none⟩ = some (.slice (some ⟨q, 0, none⟩) S S))
    (first | exact ⟨k0, k1⟩ | fail)
    (first | (go_at_call 26; refine CL.mono ?_; rintro e w2 ⟨rfl, rfl⟩)
           | (go_at_call 22; refine CS.mono ?_; rintro e w2 ⟨rfl, rfl⟩)
           | (go_at_call 23; refine CR.mono ?_; rintro e w2 ⟨rfl, rfl⟩)
           | (go_at_call 27; refine DR.mono ?_; rintro e w2 ⟨rfl, rfl⟩)
           | (go_at_call 28; refine CW.mono ?_; rintro e w2 ⟨rfl, rfl⟩)
           | (go_at_call 29; refine DW.mono ?_; rintro e w2 ⟨rfl, rfl⟩) | fail)
  go_wp2
  go_ret
  exact ⟨rfl, HB.out⟩
end Go.Proofs.Ytajbieokcdejgaa
