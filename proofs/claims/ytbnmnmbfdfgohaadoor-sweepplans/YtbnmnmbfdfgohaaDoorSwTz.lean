/-
  math/bits.TrailingZeros64; the numbers of a set of bits.
-/
import Derived.Test.YtbnmnmbfdfgohaaDoorSwMem
import Derived.Shelf.Spec.TrailingZeros
namespace Go.Proofs.YtbnmnmbfdfgohaaDoor
open Go.RowKit Go.WideShapes

/-- The library's table lies where it should. -/
def Tab (w : World) : Prop := TabAt 0 Lib.deBruijn64tab w
theorem Tab.below {B : Nat} {w w' : World} (h : Tab w) (hb : Below B w w') (hB : 0 < B) : Tab w' := fun j hj => (World.cell?_of_block (a := ⟨0, j, none⟩) (hb.block _ hB)).trans (h j hj)
theorem Tab.lt {w : World} (h : Tab w) : 0 < w.heap.size := lt_of_cell (h 0 (by decide))
set_option maxHeartbeats 1000000 in
theorem tz_core (x k idx : Nat) (w : World) (hx0 : ((x : Int) == 0) = false)
    (key : IntKind.u64.wrap (bits BinOp.and IntKind.u64 (x : Int) (IntKind.u64.wrap (-(x : Int))) * 285870213051353865) / 288230376151711744 = (idx : Int))
    (hi : idx < 64) (hk : k < 64) (hcell : w.cell? ⟨0, idx, none⟩ = some (.int .u8 k)) :
    Calls Tryd.prog 41 #[.int .u64 x] w fun e w' => e = .returned (.int .i64 k) ∧ w' = w := by
  go_enter Tryd.func41, Tryd.ntmps41
  go_wp2_with (simp only [key])
  go_ret
  exact ⟨rfl, rfl⟩
theorem tz_any (x : Nat) (hx0 : x ≠ 0) (hx : x < 18446744073709551616) (w : World) (hT : Tab w) :
    Calls Tryd.prog 41 #[.int .u64 x] w fun e w' => e = .returned (.int .i64 (Lib.ctz 64 x)) ∧ w' = w := by
  obtain ⟨hlow, hk⟩ := Lib.lowest_bit 64 x hx0 hx
  obtain ⟨hi, htab⟩ := Lib.deBruijn64_at _ hk
  have hcell := hT _ hi
  rw [htab] at hcell
  exact tz_core x _ _ w (by simp; omega) (tz64_key x _ hx hx0 hlow) hi hk hcell
set_option maxRecDepth 100000 in
set_option maxHeartbeats 1000000 in
theorem numbers_any {w : World} {g m cap : Nat} {W : Nat → Nat} {f : Nat → Bool} (h : Mk w g m cap W) (hf : Wf W f m) (hm : m ≤ 1000) (hT : Tab w) : Calls Tryd.prog 29 #[.slice (some ⟨g, 0, none⟩) m cap] w fun e w' => ∃ v, e = .returned v ∧ IntsR w.heap.size w' v (nbs f (m * 64)) ∧ Below w.heap.size w w' := by
  obtain ⟨i0, hi, hz0, hz1, hz2⟩ := info_parts Tryd.infoN
  have hglt := h.lt
  have htlt := hT.lt
  have HM := Lib.hid h
  have HF := Lib.hid hf
  have HT := Lib.hid hT
  clear h hf hT
  go_enter Tryd.func29, Tryd.ntmps29
  go_wp2_with fail
  go_loopw [3, 8] (fun v3 v8 wr => ∃ j : Nat, j ≤ m ∧ v8 = .int .i64 (j : Int) ∧ IntsR w.heap.size wr v3 (nbs f (j * 64)) ∧ Below w.heap.size w wr) (fun _ v8 _ => m - (intOf v8).toNat)
  case atStart => exact ⟨0, Nat.zero_le _, rfl, by simpa [nbs] using IntsR.nil _ _, Below.refl _ _⟩
  case round =>
    obtain ⟨j, hj, rfl, hI, hB⟩ := hrel
    by_cases hjl : j < m
    · have tj : (j : Int) < (m : Int) := by omega
      have tj0 : (0 : Int) ≤ (j : Int) := by omega
      have ej : IntKind.i64.wrap ((j : Int) + 1) = ((j + 1 : Nat) : Int) := by rw [i64_small (by omega) (by omega)]; omega
      have em : IntKind.i64.wrap ((j : Int) * 64) = ((j * 64 : Nat) : Int) := by rw [i64_small (by omega) (by omega)]; omega
      have c0 := (hB.cell (p := ⟨g, j, none⟩) hglt).trans (HM.out.cell j hjl)
      have hw64 := (HF.out.1 j hjl).1
      have HX : Hid (nbs f ((j + 1) * 64) = nbs f (j * 64) ++ (nbs (W j).testBit 64).map (fun x => ((j * 64 : Nat) : Int) + x)) := HF.out.nbs j hjl
      have hl0 := nbs_le f (j * 64)
      have HI := Lib.hid hI
      have HB := Lib.hid hB
      clear hI hB
      generalize W j = x0 at *
      obtain ⟨J, hJ⟩ : ∃ J, j * 64 = J := ⟨_, rfl⟩
      rw [hJ] at em HX HI hl0
      have HJ := Lib.hid hJ
      have hJ2 : J ≤ 64000 := by omega
      clear hJ
      rename World => wo
      go_wp2_with fail
      go_loopg [3, 5] x0 (fun gk v3 v5 wr => ∃ (x : Nat) (P : List Int), gk = x ∧ v5 = .int .u64 (x : Int) ∧ x < 18446744073709551616 ∧ Hid (P ++ nbs x.testBit 64 = nbs x0.testBit 64) ∧ IntsR w.heap.size wr v3 (nbs f J ++ P.map (fun x => (J : Int) + x)) ∧ Below w.heap.size w wr)
      case atStart => exact ⟨x0, [], rfl, rfl, hw64, rfl, by simpa using HI.out, HB.out⟩
      case round =>
        clear HI HB c0
        obtain ⟨x, P, hgx, rfl, hx, HP, hI, hB⟩ := hrel
        have hgx := hgx.symm
        subst hgx
        have hPl : P.length ≤ 64 := by
          have h1 := nbs_le x0.testBit 64
          rw [← HP.out, List.length_append] at h1
          omega
        by_cases hx0 : x = 0
        · subst hx0
          have HI := Lib.hid hI
          have HB := Lib.hid hB
          clear hI hB
          go_wp2_with fail
          go_roundw
          case rel =>
            refine ⟨j + 1, by omega, rfl, ?_, HB.out⟩
            have h1 := HP.out
            rw [word_none, List.append_nil] at h1
            rw [HX.out, ← h1]
            exact HI.out
          case measure => simp [intOf]; omega
        · have tx : ((x : Int) = 0) = False := by simp; omega
          obtain ⟨hc, hw1, hw2, hw3⟩ := word_first x hx0 hx
          have C := tz_any x hx0 hx wr (HT.out.below hB htlt)
          have es : IntKind.u64.wrap ((x : Int) - 1) = ((x - 1 : Nat) : Int) := by rw [IntKind.wrap_u64]; omega
          have ea := bits_and_u64_nat x (x - 1) hx (by omega)
          have et : ∃ y : Nat, (y : Int) = (J : Int) + (Lib.ctz 64 x : Int) ∧ IntKind.i64.wrap ((J : Int) + (Lib.ctz 64 x : Int)) = (y : Int) := ⟨J + Lib.ctz 64 x, by omega, by rw [i64_small (by omega) (by omega)]; omega⟩
          obtain ⟨y, hy, et⟩ := et
          have HY := Lib.hid hy
          clear hy
          have hlen : (nbs f J ++ P.map (fun x => (J : Int) + x)).length ≤ 100000 := by rw [List.length_append, List.length_map]; omega
          obtain ⟨Q, hQ⟩ : ∃ Q, nbs f J ++ P.map (fun x => (J : Int) + x) = Q := ⟨_, rfl⟩
          rw [hQ] at hI hlen
          have hown : wr.ownsRow w.heap.size 3 1 u3 Q.length (Q.map fun x : Int => Value.int .i64 x) := hI
          have HQ := Lib.hid hQ
          clear hQ
          have hws := hB.size
          have HB := Lib.hid hB
          have HW1 := Lib.hid hw1
          have HL := Lib.hid hlen
          clear hI hB hw1 hc hPl hlen
          generalize x &&& (x - 1) = x1 at *
          generalize Lib.ctz 64 x = c at *
          go_wp2_with fail
          refine C.mono ?_
          rintro e w1 ⟨rfl, rfl⟩
          clear C
          go_wp2_with (at_builtin; refine wpListS_append_own rfl _ _ 23 rfl w.heap.size 3 i0 (.int .i64 0) 1 8 Tryd.underlying23 hi hz0 hz1 hz2 rfl (by decide) _ _ _ rfl (World.ownsRow.alloc hown _) ⟨w1.heap.size, 0, none⟩ 1 1 [.int .i64 (y : Int)] rfl rfl (newR_one _ _ _) (fun u hu => by simp at hu; subst hu; rfl) (by have := HL.out; unfold maxLen; omega) (by have := HL.out; omega) (by simp; omega) ?_)
          intro v' w5 hown2 hgrow hat
          have HI5 := Lib.hid (intsR_snoc hown2)
          have HB5 := Lib.hid (belowR_grown HB.out (Nat.le_refl _) hown hgrow)
          clear hown2 hgrow hat hown
          go_wp2_with fail
          go_roundg x1
          case rel =>
            refine ⟨x1, P ++ [(c : Int)], rfl, rfl, hw2, ?_, ?_, HB5.out⟩
            · show _ = _
              rw [← HP.out, HW1.out]
              simp
            · have := HI5.out
              rw [HY.out, ← HQ.out] at this
              simpa using this
          case measure => exact hw3
    · obtain rfl : j = m := by omega
      have tj : ((j : Int) < (j : Int)) = False := by simp
      have HI := Lib.hid hI
      have HB := Lib.hid hB
      clear hI hB
      go_wp2
      go_ret
      exact ⟨_, rfl, HI.out, HB.out⟩
end Go.Proofs.YtbnmnmbfdfgohaaDoor
