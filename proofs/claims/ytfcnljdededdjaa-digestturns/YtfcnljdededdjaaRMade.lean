/-
  The reference: made, Form, Negate, long, kept.
-/
import Derived.Test.YtfcnljdededdjaaRTrim
namespace Go.Proofs.Ytfcnljdededdjaa
open Go.RowKit

set_option maxHeartbeats 1000000 in
theorem rmade_any (neg : Bool) (a : Option Addr) (n cap : Nat) (xs : List Nat) (w : World) (h : Sl .u32 w (.slice a n cap) xs) (ox : okw xs) (hb : xs.length ≤ 1000000) :
    Calls Try.prog 27 #[.bool neg, .slice a n cap] w fun e w' => ∃ n3 a3 l3 c3, e = .returned (.agg #[.bool n3, .slice a3 l3 c3]) ∧ IntIs w.heap.size w' (.agg #[.bool n3, .slice a3 l3 c3]) (zv neg (val xs)) ∧ Below w.heap.size w w' := by
  have hR0 := Box2.new w false none 0 0 24
  have hb0 := below_alloc w (.cells #[.bool false, .slice none 0 0] 24)
  go_enter Try.func27, Try.ntmps27
  go_wp2_with fail
  obtain ⟨w0, hW⟩ : ∃ w0, w.alloc (.cells #[.bool false, .slice none 0 0] 24) = w0 := ⟨_, rfl⟩
  rw [hW] at hR0 hb0 ⊢
  clear hW
  refine (rtrim_any a n cap xs w0 (h.below hb0) hb).mono ?_
  rintro e w1 ⟨a', c', rfl, hw, hnil, hb1⟩
  have hR1 := hR0.below hb1
  have hBw : Below w.heap.size w w1 := hb0.trans (hb1.mono hb0.size)
  have r0 := hR1.c0
  have r1 := hR1.c1
  have rf0 := hR1.f0
  have rf1 := hR1.f1
  have hl := trimL_length xs
  have hv := val_trimL xs
  obtain ⟨m, hm⟩ : ∃ m, tl xs xs.length = m := ⟨_, rfl⟩
  rw [hm] at hw hl ⊢
  have HI : ∀ N, (m = 0 → N = false) → zv N (val xs) = zv neg (val xs) → IntIs w.heap.size w1 (.agg #[.bool N, .slice a' m c']) (zv neg (val xs)) := fun N hN hz =>
    ⟨N, a', m, c', trimL xs, rfl, hw.ow.mono hb0.size, okw_trimL ox, Tr_trimL xs, fun h => ⟨hN (by rw [h] at hl; exact hl.symm), (hnil h).1, (hnil h).2⟩, by rw [hv, hz]⟩
  have fin : ∀ N, IntIs w.heap.size w1 (.agg #[.bool N, .slice a' m c']) (zv neg (val xs)) → Hid (IntIs w.heap.size (put2 w1 w.heap.size N (.slice a' m c')) (.agg #[.bool N, .slice a' m c']) (zv neg (val xs)) ∧ Below w.heap.size w (put2 w1 w.heap.size N (.slice a' m c'))) := fun N hI => ⟨hI.put hR1 N (.slice a' m c'), below_put2 (N := w.heap.size) hBw (Nat.le_refl _) N (.slice a' m c')⟩
  cases m with
  | zero =>
    have h0 : val xs = 0 := tl_zero.1 hm
    have HF := fin false (HI false (fun _ => rfl) (by rw [h0]; simp [zv]))
    have hfin := hR1.put false a' 0 c'
    have hg0 := hfin.c0
    have hg1 := hfin.c1
    unfold put2 at hg0 hg1
    clear HI fin hm hl hv hw hnil
    cases neg with
    | false =>
      go_wp2
      refine bodyPost_ret (v := .agg #[.bool false, .slice a' 0 c']) ?_ rfl ⟨_, _, _, _, rfl, HF.out⟩
      simp [results, Try.f27, go_sem, hg0, hg1]
    | true =>
      go_wp2
      refine bodyPost_ret (v := .agg #[.bool false, .slice a' 0 c']) ?_ rfl ⟨_, _, _, _, rfl, HF.out⟩
      simp [results, Try.f27, go_sem, hg0, hg1]
  | succ m =>
    have HF := fin neg (HI neg (fun h => by cases h) rfl)
    have hfin := hR1.put neg a' (m + 1) c'
    have hg0 := hfin.c0
    have hg1 := hfin.c1
    unfold put2 at hg0 hg1
    clear HI fin hm hl hv hw hnil
    cases neg with
    | false =>
      go_wp2
      refine bodyPost_ret (v := .agg #[.bool false, .slice a' (m + 1) c']) ?_ rfl ⟨_, _, _, _, rfl, HF.out⟩
      simp [results, Try.f27, go_sem, hg0, hg1]
    | true =>
      go_wp2
      refine bodyPost_ret (v := .agg #[.bool true, .slice a' (m + 1) c']) ?_ rfl ⟨_, _, _, _, rfl, HF.out⟩
      simp [results, Try.f27, go_sem, hg0, hg1]

set_option maxHeartbeats 1000000 in
theorem rform_any (na : Bool) (ax : Option Addr) (nx cx : Nat) (xs : List Nat) (w : World) (hx : Sl .u32 w (.slice ax nx cx) xs) (ox : okw xs) (bx : xs.length ≤ 1000000) :
    Calls Try.prog 10 #[.agg #[.bool na, .slice ax nx cx]] w fun e w' => ∃ neg a n cap, e = .returned (.agg #[.bool neg, .slice a n cap]) ∧ IntIs w.heap.size w' (.agg #[.bool neg, .slice a n cap]) (zv na (val xs)) ∧ Below w.heap.size w w' := by
  have hbs := boxes2 w na false ax none nx cx 0 0 24
  go_enter Try.func10, Try.ntmps10
  go_wp2_with fail
  obtain ⟨W0, hW0⟩ : ∃ W0, (w.alloc (.cells #[.bool na, .slice ax nx cx] 24)).alloc (.cells #[.bool false, .slice none 0 0] 24) = W0 := ⟨_, rfl⟩
  simp only [hW0] at hbs
  rw [hW0]
  clear hW0
  obtain ⟨hA, hR, hB0⟩ := hbs
  refine (rmade_any na ax nx cx xs W0 (hx.below hB0) ox bx).mono ?_
  rintro e w3 ⟨n3, a3, l3, c3, rfl, hI, hb3⟩
  have hR3 := hR.below hb3
  have s0 := hR3.c0
  have s1 := hR3.c1
  have sf0 := hR3.f0
  have sf1 := hR3.f1
  have hfin := hR3.put n3 a3 l3 c3
  have hg0 := hfin.c0
  have hg1 := hfin.c1
  unfold put2 at hg0 hg1
  have hBw : Below w.heap.size w w3 := hB0.trans (hb3.mono hB0.size)
  have hI2 := (hI.mono (B' := w.heap.size) hB0.size).put hR3 n3 (.slice a3 l3 c3)
  go_wp2
  refine bodyPost_ret (v := .agg #[.bool n3, .slice a3 l3 c3]) ?_ rfl ⟨_, _, _, _, rfl, hI2, below_put2 (N := w.heap.size + 1) hBw (by omega) n3 (.slice a3 l3 c3)⟩
  simp [results, Try.f10, go_sem, hg0, hg1]

set_option maxHeartbeats 1000000 in
theorem rnegate_any (na : Bool) (ax : Option Addr) (nx cx : Nat) (xs : List Nat) (w : World) (hx : Sl .u32 w (.slice ax nx cx) xs) (ox : okw xs) (bx : xs.length ≤ 1000000) :
    Calls Try.prog 11 #[.agg #[.bool na, .slice ax nx cx]] w fun e w' => ∃ neg a n cap, e = .returned (.agg #[.bool neg, .slice a n cap]) ∧ IntIs w.heap.size w' (.agg #[.bool neg, .slice a n cap]) (- zv na (val xs)) ∧ Below w.heap.size w w' := by
  have hbs := boxes2 w na false ax none nx cx 0 0 24
  go_enter Try.func11, Try.ntmps11
  go_wp2_with fail
  obtain ⟨W0, hW0⟩ : ∃ W0, (w.alloc (.cells #[.bool na, .slice ax nx cx] 24)).alloc (.cells #[.bool false, .slice none 0 0] 24) = W0 := ⟨_, rfl⟩
  simp only [hW0] at hbs
  rw [hW0]
  clear hW0
  obtain ⟨hA, hR, hB0⟩ := hbs
  refine (rmade_any (!na) ax nx cx xs W0 (hx.below hB0) ox bx).mono ?_
  rintro e w3 ⟨n3, a3, l3, c3, rfl, hI, hb3⟩
  rw [zv_not] at hI
  have hR3 := hR.below hb3
  have s0 := hR3.c0
  have s1 := hR3.c1
  have sf0 := hR3.f0
  have sf1 := hR3.f1
  have hfin := hR3.put n3 a3 l3 c3
  have hg0 := hfin.c0
  have hg1 := hfin.c1
  unfold put2 at hg0 hg1
  have hBw : Below w.heap.size w w3 := hB0.trans (hb3.mono hB0.size)
  have hI2 := (hI.mono (B' := w.heap.size) hB0.size).put hR3 n3 (.slice a3 l3 c3)
  go_wp2
  refine bodyPost_ret (v := .agg #[.bool n3, .slice a3 l3 c3]) ?_ rfl ⟨_, _, _, _, rfl, hI2, below_put2 (N := w.heap.size + 1) hBw (by omega) n3 (.slice a3 l3 c3)⟩
  simp [results, Try.f11, go_sem, hg0, hg1]

theorem long_iff {xs : List Nat} (ox : okw xs) : decide (256 < tl xs xs.length) = decide (pw 256 ≤ val xs) := by
  have h := len_le_iff (Tr_trimL xs) (okw_trimL ox) 256
  rw [trimL_length, val_trimL] at h
  simp only [decide_eq_decide]
  omega

theorem IntIs.open {B : Nat} {w : World} {neg : Bool} {a : Option Addr} {n c : Nat} {z : Int} (h : IntIs B w (.agg #[.bool neg, .slice a n c]) z) : ∃ xs, Ow .u32 B w (.slice a n c) xs ∧ okw xs ∧ Fm neg xs ∧ zv neg (val xs) = z := by
  obtain ⟨_, _, _, _, xs, e, ho, ok, t, hn, hz'⟩ := h
  cases e
  exact ⟨xs, ho, ok, ⟨t, fun h => (hn h).1⟩, hz'.symm⟩

end Go.Proofs.Ytfcnljdededdjaa
