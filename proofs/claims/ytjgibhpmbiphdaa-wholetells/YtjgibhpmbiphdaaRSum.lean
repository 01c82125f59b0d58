/-
  The reference: sum.
-/
import Derived.Test.YtjgibhpmbiphdaaRSize
import Derived.Test.YtjgibhpmbiphdaaRPlus
namespace Go.Proofs.Ytjgibhpmbiphdaa
open Go.RowKit

theorem IntIs.len_le {B : Nat} {w : World} {neg : Bool} {a : Option Addr} {n c : Nat} {z : Int} (h : IntIs B w (.agg #[.bool neg, .slice a n c]) z) (k : Nat) (hz : z.natAbs < pw k) : n ≤ k := by
  obtain ⟨xs, ho, ok, fm, e⟩ := h.open
  rw [ho.len]
  exact Tr_len_le fm.tr k (by rw [← e, zv_abs] at hz; exact hz)

/-- Two Ints in their boxes, N and N + 1. -/
def C4 (N : Nat) (na : Bool) (ax : Option Addr) (nx cx : Nat) (nb : Bool) (ay : Option Addr) (ny cy : Nat) (W : World) : Prop :=
  W.cell? ⟨N, 0, none⟩ = some (.bool na) ∧ W.cell? ⟨N, 1, none⟩ = some (.slice ax nx cx) ∧ W.cell? ⟨N + 1, 0, none⟩ = some (.bool nb) ∧ W.cell? ⟨N + 1, 1, none⟩ = some (.slice ay ny cy)
section
variable {N : Nat} {na : Bool} {ax : Option Addr} {nx cx : Nat} {nb : Bool} {ay : Option Addr} {ny cy : Nat} {W W' : World}
theorem C4.mk (hA : Box2 W N na ax nx cx) (hB : Box2 W (N + 1) nb ay ny cy) : C4 N na ax nx cx nb ay ny cy W := ⟨hA.c0, hA.c1, hB.c0, hB.c1⟩
theorem C4.drew (h : C4 N na ax nx cx nb ay ny cy W) : C4 N na ax nx cx nb ay ny cy W.drew := h
theorem C4.keep (h : C4 N na ax nx cx nb ay ny cy W) (hb : Below W.heap.size W W') : C4 N na ax nx cx nb ay ny cy W' :=
  ⟨cell_below h.1 hb, cell_below h.2.1 hb, cell_below h.2.2.1 hb, cell_below h.2.2.2 hb⟩
theorem C4.put (h : C4 N na ax nx cx nb ay ny cy W) (x : Bool) (s : Value) : C4 N na ax nx cx nb ay ny cy ((W.setCell ⟨N + 1 + 1, 0, none⟩ (.bool x)).setCell ⟨N + 1 + 1, 1, none⟩ s) := by
  have o : ∀ p : Addr, p.block < N + 1 + 1 → ((W.setCell ⟨N + 1 + 1, 0, none⟩ (.bool x)).setCell ⟨N + 1 + 1, 1, none⟩ s).cell? p = W.cell? p := fun p hp => by
    rw [World.cell?_setCell_other _ _ _ _ (by intro e; rw [← e] at hp; simp at hp), World.cell?_setCell_other _ _ _ _ (by intro e; rw [← e] at hp; simp at hp)]
  exact ⟨(o _ (by simp; omega)).trans h.1, (o _ (by simp; omega)).trans h.2.1, (o _ (by simp)).trans h.2.2.1, (o _ (by simp)).trans h.2.2.2⟩
end

set_option maxRecDepth 100000 in
set_option maxHeartbeats 4000000 in
theorem rsum_any (na nb : Bool) (ax ay : Option Addr) (nx cx ny cy : Nat) (X Y : List Nat) (w : World) (hx : Sl .u32 w (.slice ax nx cx) X) (hy : Sl .u32 w (.slice ay ny cy) Y) (oX : okw X) (oY : okw Y) (tX : Tr X) (tY : Tr Y)
    (bx : X.length ≤ 100000) (by_ : Y.length ≤ 100000) :
    Calls Try.prog 44 #[.agg #[.bool na, .slice ax nx cx], .agg #[.bool nb, .slice ay ny cy]] w fun e w' => ∃ neg a n cap, e = .returned (.agg #[.bool neg, .slice a n cap]) ∧ IntIs w.heap.size w' (.agg #[.bool neg, .slice a n cap]) (zv na (val X) + zv nb (val Y)) ∧ Below w.heap.size w w' := by
  have hbs := boxes3 w na nb false ax ay none nx cx ny cy 0 0 24
  go_enter Try.func44, Try.ntmps44
  go_upto_region 1 with fail
  obtain ⟨W0, hW0⟩ : ∃ W0, ((w.alloc (.cells #[.bool na, .slice ax nx cx] 24)).alloc (.cells #[.bool nb, .slice ay ny cy] 24)).alloc (.cells #[.bool false, .slice none 0 0] 24) = W0 := ⟨_, rfl⟩
  simp only [hW0] at hbs
  rw [hW0]
  clear hW0
  obtain ⟨hA, hB, hR, hB0⟩ := hbs
  have hC := C4.mk hA hB
  have a0 := hA.c0
  have a1 := hA.c1
  have b0 := hB.c0
  have b1 := hB.c1
  have hX := hx.below hB0
  have hY := hy.below hB0
  clear hx hy hA hB
  by_cases hnm : (na == nb) = true
  · obtain rfl : na = nb := by simpa using hnm
    go_wp2_with fail
    go_region_held3 (fun W => W.cell? ⟨w.heap.size, 0, none⟩ = some (.bool na) ∧ W.cell? ⟨w.heap.size, 1, none⟩ = some (.slice ax nx cx) ∧ W.cell? ⟨w.heap.size + 1, 0, none⟩ = some (.bool na) ∧ W.cell? ⟨w.heap.size + 1, 1, none⟩ = some (.slice ay ny cy))
      (first | exact hC.drew | assumption | exact C4.put hC3 _ _ | exact C4.keep (by assumption) hb2 | exact C4.keep hC2 hb3 | fail)
      (first | (go_at_call 67; refine (rplus_any ax ay nx cx ny cy X Y _ (hX.below below_drew) (hY.below below_drew) bx by_ oX oY).mono ?_; rintro e w2 ⟨v2, Z, rfl, hZ, oZ, vZ, lZ, hb2⟩; obtain ⟨a2, c2, rfl⟩ := hZ.ow.form; have HVZ : Hid (val Z = val X + val Y) := vZ; have hR2 := (hR.below below_drew).below hb2; have hC2 := hC.drew.keep hb2; clear vZ)
             | (go_at_call 49; refine (rmade_any na a2 _ c2 Z _ hZ.ow.sl oZ (by omega)).mono ?_; rintro e w3 ⟨n3, a3, l3, c3, rfl, hI, hb3⟩; have hR3 := hR2.below hb3; have hC3 := hC2.keep hb3; have s0 := hR3.c0; have s1 := hR3.c1; have sf0 := hR3.f0; have sf1 := hR3.f1)
             | fail)
    have hBs : w.heap.size ≤ W0.drew.heap.size := hB0.size
    have hBw : Below w.heap.size w w2 := hB0.drew.trans (hb2.mono hBs)
    have hfin := hR3.put n3 a3 l3 c3
    have hg0 := hfin.c0
    have hg1 := hfin.c1
    unfold put2 at hg0 hg1
    have hI2 := (hI.mono (B' := w.heap.size) (Nat.le_trans hBs hb2.size)).put hR3 n3 (.slice a3 l3 c3)
    rw [HVZ.out, zv_same] at hI2
    have HI2 : Hid (IntIs w.heap.size (put2 w3 (w.heap.size + 1 + 1) n3 (.slice a3 l3 c3)) (.agg #[.bool n3, .slice a3 l3 c3]) (zv na (val X) + zv na (val Y))) := hI2
    clear hI2
    go_wp2
    refine bodyPost_ret (v := .agg #[.bool n3, .slice a3 l3 c3]) ?_ rfl ⟨_, _, _, _, rfl, HI2.out, below_put2 (N := w.heap.size + 1 + 1) (hBw.trans (hb3.mono hBw.size)) (by omega) n3 (.slice a3 l3 c3)⟩
    simp [results, Try.f44, go_sem, hg0, hg1]
  · have hnm' : (na == nb) = false := by simpa using hnm
    clear hnm
    obtain ⟨cv, ecv⟩ : ∃ cv, cmpN (val X) (val Y) = cv := ⟨_, rfl⟩
    go_wp2_with fail
    refine (rsize_any ax ay nx cx ny cy X Y W0 hX hY oX oY tX tY (by omega)).mono ?_
    rw [ecv]
    rintro e w1 ⟨rfl, hb1⟩
    replace hX := hX.below hb1
    replace hY := hY.below hb1
    replace hR := hR.below hb1
    replace hC := hC.keep hb1
    replace hB0 : Below w.heap.size w w1 := hB0.trans (hb1.mono hB0.size)
    clear a0 a1 b0 b1 hb1
    clear W0
    have a0 := hC.1
    have a1 := hC.2.1
    have b0 := hC.2.2.1
    have b1 := hC.2.2.2
    by_cases hlt : val X < val Y
    · have hcv : ¬ (0 : Int) ≤ cv := by rw [← ecv]; simp [cmpN, hlt]
      have hle : val X ≤ val Y := by omega
      clear ecv
      go_wp2_with fail
      go_region_held3 (fun W => W.cell? ⟨w.heap.size, 0, none⟩ = some (.bool na) ∧ W.cell? ⟨w.heap.size, 1, none⟩ = some (.slice ax nx cx) ∧ W.cell? ⟨w.heap.size + 1, 0, none⟩ = some (.bool nb) ∧ W.cell? ⟨w.heap.size + 1, 1, none⟩ = some (.slice ay ny cy))
        (first | exact hC.drew | assumption | exact C4.put hC3 _ _ | exact C4.keep (by assumption) hb2 | exact C4.keep hC2 hb3 | fail)
        (first | (go_at_call 71; refine (rminus_any ay ax ny cy nx cx Y X _ (hY.below below_drew) (hX.below below_drew) by_ (Tr_len_of_le tX oY hle) hle oY oX).mono ?_; rintro e w2 ⟨v2, Z, rfl, hZ, oZ, vZ, lZ, hb2⟩; obtain ⟨a2, c2, rfl⟩ := hZ.ow.form; have HVZ : Hid (val Z = val Y - val X) := vZ; have hR2 := (hR.below below_drew).below hb2; have hC2 := hC.drew.keep hb2; clear vZ)
               | (go_at_call 49; refine (rmade_any nb a2 _ c2 Z _ hZ.ow.sl oZ (by omega)).mono ?_; rintro e w3 ⟨n3, a3, l3, c3, rfl, hI, hb3⟩; have hR3 := hR2.below hb3; have hC3 := hC2.keep hb3; have s0 := hR3.c0; have s1 := hR3.c1; have sf0 := hR3.f0; have sf1 := hR3.f1)
               | fail)
      have hBs : w.heap.size ≤ w1.drew.heap.size := hB0.size
      have hBw : Below w.heap.size w w2 := hB0.drew.trans (hb2.mono hBs)
      have hfin := hR3.put n3 a3 l3 c3
      have hg0 := hfin.c0
      have hg1 := hfin.c1
      unfold put2 at hg0 hg1
      have hI2 := (hI.mono (B' := w.heap.size) (Nat.le_trans hBs hb2.size)).put hR3 n3 (.slice a3 l3 c3)
      rw [HVZ.out, zv_less na nb _ _ hnm' hlt] at hI2
      have HI2 : Hid (IntIs w.heap.size (put2 w3 (w.heap.size + 1 + 1) n3 (.slice a3 l3 c3)) (.agg #[.bool n3, .slice a3 l3 c3]) (zv na (val X) + zv nb (val Y))) := hI2
      clear hI2
      go_wp2
      refine bodyPost_ret (v := .agg #[.bool n3, .slice a3 l3 c3]) ?_ rfl ⟨_, _, _, _, rfl, HI2.out, below_put2 (N := w.heap.size + 1 + 1) (hBw.trans (hb3.mono hBw.size)) (by omega) n3 (.slice a3 l3 c3)⟩
      simp [results, Try.f44, go_sem, hg0, hg1]
    · have hge : val Y ≤ val X := by omega
      have hcv : (0 : Int) ≤ cv := by rw [← ecv]; unfold cmpN; rw [if_neg hlt]; split <;> omega
      clear ecv
      go_wp2_with fail
      go_region_held3 (fun W => W.cell? ⟨w.heap.size, 0, none⟩ = some (.bool na) ∧ W.cell? ⟨w.heap.size, 1, none⟩ = some (.slice ax nx cx) ∧ W.cell? ⟨w.heap.size + 1, 0, none⟩ = some (.bool nb) ∧ W.cell? ⟨w.heap.size + 1, 1, none⟩ = some (.slice ay ny cy))
        (first | exact hC.drew | assumption | exact C4.put hC3 _ _ | exact C4.keep (by assumption) hb2 | exact C4.keep hC2 hb3 | fail)
        (first | (go_at_call 71; refine (rminus_any ax ay nx cx ny cy X Y _ (hX.below below_drew) (hY.below below_drew) bx (Tr_len_of_le tY oX hge) hge oX oY).mono ?_; rintro e w2 ⟨v2, Z, rfl, hZ, oZ, vZ, lZ, hb2⟩; obtain ⟨a2, c2, rfl⟩ := hZ.ow.form; have HVZ : Hid (val Z = val X - val Y) := vZ; have hR2 := (hR.below below_drew).below hb2; have hC2 := hC.drew.keep hb2; clear vZ)
               | (go_at_call 49; refine (rmade_any na a2 _ c2 Z _ hZ.ow.sl oZ (by omega)).mono ?_; rintro e w3 ⟨n3, a3, l3, c3, rfl, hI, hb3⟩; have hR3 := hR2.below hb3; have hC3 := hC2.keep hb3; have s0 := hR3.c0; have s1 := hR3.c1; have sf0 := hR3.f0; have sf1 := hR3.f1)
               | fail)
      have hBs : w.heap.size ≤ w1.drew.heap.size := hB0.size
      have hBw : Below w.heap.size w w2 := hB0.drew.trans (hb2.mono hBs)
      have hfin := hR3.put n3 a3 l3 c3
      have hg0 := hfin.c0
      have hg1 := hfin.c1
      unfold put2 at hg0 hg1
      have hI2 := (hI.mono (B' := w.heap.size) (Nat.le_trans hBs hb2.size)).put hR3 n3 (.slice a3 l3 c3)
      rw [HVZ.out, zv_more na nb _ _ hnm' hge] at hI2
      have HI2 : Hid (IntIs w.heap.size (put2 w3 (w.heap.size + 1 + 1) n3 (.slice a3 l3 c3)) (.agg #[.bool n3, .slice a3 l3 c3]) (zv na (val X) + zv nb (val Y))) := hI2
      clear hI2
      go_wp2
      refine bodyPost_ret (v := .agg #[.bool n3, .slice a3 l3 c3]) ?_ rfl ⟨_, _, _, _, rfl, HI2.out, below_put2 (N := w.heap.size + 1 + 1) (hBw.trans (hb3.mono hBw.size)) (by omega) n3 (.slice a3 l3 c3)⟩
      simp [results, Try.f44, go_sem, hg0, hg1]
end Go.Proofs.Ytjgibhpmbiphdaa
