/-
  What awake, few and the statements' own sum do.
-/
import Derived.Test.YteplmnnpmekngabText
namespace Go.Proofs.Yteplmnnpmekngab
open Go.RowKit

theorem pw_big {n : Nat} (h : n < 4294967296) : n < pw 256 := Nat.lt_of_lt_of_le h (by have := pw_mono (show 1 ≤ 256 by omega); rwa [show pw 1 = 4294967296 from rfl] at this)
/-- An Int of a small value has few words. -/
theorem len_small {xs : List Nat} (t : Tr xs) (h : val xs < pw 256) : xs.length ≤ 256 := Tr_len_le t 256 h
theorem dec_three {ts : List Nat} (h : IsDec ts 3) : ts = [51] := h.unique ⟨okd_cons.2 ⟨by omega, okd_nil⟩, by simp [dval], Or.inr (by simp)⟩
theorem text_three : textOf [45, 51] = .string ⟨#[45, 51]⟩ := rfl

set_option maxRecDepth 100000 in
set_option maxHeartbeats 2000000 in
theorem awake_any (w : World) : Calls Try.prog 6 #[] w fun e w' => e = .returned (.bool true) ∧ Below w.heap.size w w' := by
  go_enter Try.func6, Try.ntmps6
  go_wp2_with fail
  refine (of_any 2 w (by omega) (by omega)).mono ?_
  rintro e w1 ⟨n1, a1, l1, c1, rfl, hI1, hb1⟩
  go_wp2_with fail
  refine (of_any (-5) w1 (by omega) (by omega)).mono ?_
  rintro e w2 ⟨n2, a2, l2, c2, rfl, hI2, hb2⟩
  go_wp2_with fail
  obtain ⟨_, _, _, _, xs1, e1, ho1, ok1, t1, _, z1⟩ := hI1.below hb2
  cases e1
  obtain ⟨_, _, _, _, xs2, e2, ho2, ok2, t2, _, z2⟩ := hI2
  cases e2
  have v1 : val xs1 = 2 := by have := zv_abs n1 (val xs1); rw [← z1] at this; simpa using this.symm
  have v2 : val xs2 = 5 := by have := zv_abs n2 (val xs2); rw [← z2] at this; simpa using this.symm
  have k1 := len_small t1 (pw_big (by omega))
  have k2 := len_small t2 (pw_big (by omega))
  refine (add_any n1 n2 a1 a2 l1 c1 l2 c2 xs1 xs2 w2 ho1.sl ho2.sl ok1 ok2 (by omega) (by omega)).mono ?_
  rintro e w3 ⟨n3, a3, l3, c3, k, rfl, hs, hb3⟩
  rw [← z1, ← z2, v1, v2] at hs
  have hB3 : Below w.heap.size w w3 := (hb1.trans (hb2.mono hb1.size)).trans (hb3.mono (Nat.le_trans hb1.size hb2.size))
  have key : k = 0 ∧ ∃ xs3, Ow .u32 w2.heap.size w3 (.slice a3 l3 c3) xs3 ∧ okw xs3 ∧ Tr xs3 ∧ n3 = true ∧ val xs3 = 3 := by
    have p2 : 2 < pw 256 := pw_big (by omega)
    have p5 : 5 < pw 256 := pw_big (by omega)
    have p3 : 3 < pw 256 := pw_big (by omega)
    rcases hs with ⟨h, _⟩ | ⟨_, ⟨_, hk, hI3⟩ | ⟨h, _⟩⟩
    · omega
    · obtain ⟨_, _, _, _, xs3, e3, ho3, ok3, t3, _, z3⟩ := hI3
      cases e3
      refine ⟨hk, xs3, ho3, ok3, t3, ?_, ?_⟩
      · cases n3 with
        | true => rfl
        | false => simp [zv] at z3
      · have := zv_abs n3 (val xs3); rw [← z3] at this; simpa using this.symm
    · simp at h; omega
  obtain ⟨rfl, xs3, ho3, ok3, t3, rfl, v3⟩ := key
  have k3 := len_small t3 (pw_big (by omega))
  have ht := text_any true a3 l3 c3 xs3
  clear hs hI1 z1 z2 ho1 ho2 hb1 hb2 hb3
  go_wp2_with fail
  have hB4 : Below w3.heap.size w3 (w3.alloc (.cells #[.bool true, .slice a3 l3 c3] 24)) := (Below.refl _ _).alloc (Nat.le_refl _) _
  refine (ht _ (ho3.sl.below hB4) ok3 (by omega)).mono ?_
  rintro e w5 ⟨bs, rfl, hbs, hb5⟩
  obtain rfl : bs = [45, 51] := by
    rcases hbs with ⟨h, _⟩ | ⟨_, ts, rfl, hd⟩
    · omega
    · rw [v3] at hd
      rw [dec_three hd]
      rfl
  rw [text_three]
  clear ht hbs
  go_wp2
  go_ret
  exact ⟨by simp, hB3.trans ((hB4.trans (hb5.mono hB4.size)).mono hB3.size)⟩

theorem few_any (neg : Bool) (a : Option Addr) (n cap : Nat) (w : World) :
    Calls Try.prog 5 #[.agg #[.bool neg, .slice a n cap]] w fun e w' => e = .returned (.bool (decide (n ≤ 80))) ∧ Below w.heap.size w w' := by
  go_enter Try.func5, Try.ntmps5
  go_wp2
  go_ret
  refine ⟨?_, (Below.refl _ _).alloc (Nat.le_refl _) _⟩
  simp
  omega

theorem SumRes.below {B : Nat} {w w' : World} {v : Value} {k z : Int} {x y : Nat} (h : SumRes B w v k x y z) (hb : Below w.heap.size w w') : SumRes B w' v k x y z := by
  rcases h with h | ⟨h1, ⟨h2, h3, h4⟩ | h5⟩
  · exact Or.inl h
  · exact Or.inr ⟨h1, Or.inl ⟨h2, h3, h4.below hb⟩⟩
  · exact Or.inr ⟨h1, Or.inr h5⟩

set_option maxRecDepth 100000 in
set_option maxHeartbeats 1000000 in
/-- The statements' own sum: what Add answers, and whether it was refused. -/
theorem lsum_any (na nb : Bool) (ax ay : Option Addr) (nx cx ny cy : Nat) (xs ys : List Nat) (w : World) (hx : Sl .u32 w (.slice ax nx cx) xs) (hy : Sl .u32 w (.slice ay ny cy) ys) (ox : okw xs) (oy : okw ys)
    (bx : xs.length ≤ 1000000) (by_ : ys.length ≤ 1000000) :
    Calls Try.prog 10 #[.agg #[.bool na, .slice ax nx cx], .agg #[.bool nb, .slice ay ny cy]] w fun e w' => ∃ neg a n cap k, e = .returned (.tuple #[.agg #[.bool neg, .slice a n cap], .bool (k == 0)]) ∧ SumRes w.heap.size w' (.agg #[.bool neg, .slice a n cap]) k (val xs) (val ys) (zv na (val xs) + zv nb (val ys)) ∧ Below w.heap.size w w' := by
  obtain ⟨hA, hB, hR, hB0⟩ := boxes3 w na nb false ax ay none nx cx ny cy 0 0 24
  go_enter Try.func10, Try.ntmps10
  go_wp2_with fail
  refine (add_any na nb ax ay nx cx ny cy xs ys _ (hx.below hB0) (hy.below hB0) ox oy bx by_).mono ?_
  rintro e w1 ⟨n3, a3, l3, c3, k, rfl, hs, hb1⟩
  have hR1 := hR.below hb1
  have hBw : Below w.heap.size w w1 := hB0.trans (hb1.mono hB0.size)
  have hs2 := (hs.mono hB0.size).put hR1 n3 (.slice a3 l3 c3)
  have hB2 : Below (put2 w1 (w.heap.size + 1 + 1) n3 (.slice a3 l3 c3)).heap.size (put2 w1 (w.heap.size + 1 + 1) n3 (.slice a3 l3 c3)) ((put2 w1 (w.heap.size + 1 + 1) n3 (.slice a3 l3 c3)).alloc (.cells #[.bool n3, .slice a3 l3 c3] 24)) := (Below.refl _ _).alloc (Nat.le_refl _) _
  have hBw2 := below_put2 (N := w.heap.size + 1 + 1) hBw (by omega) n3 (.slice a3 l3 c3)
  have hBw3 : Below w.heap.size w ((put2 w1 (w.heap.size + 1 + 1) n3 (.slice a3 l3 c3)).alloc (.cells #[.bool n3, .slice a3 l3 c3] 24)) := hBw2.trans (hB2.mono hBw2.size)
  have hs3 := hs2.below hB2
  have r0 := hR1.c0
  have r1 := hR1.c1
  have rf0 := hR1.f0
  have rf1 := hR1.f1
  have hlt := hR1.lt
  have hfin := (hR1.put n3 a3 l3 c3).below hB2
  have hg0 := hfin.c0
  have hg1 := hfin.c1
  unfold put2 at hg0 hg1
  clear hA hB hR hs hfin
  go_wp2
  refine bodyPost_ret (v := .tuple #[.agg #[.bool n3, .slice a3 l3 c3], .bool (k == 0)]) ?_ rfl ⟨_, _, _, _, _, rfl, hs3, hBw3⟩
  simp [results, Try.f10, go_sem, hg0, hg1]
end Go.Proofs.Yteplmnnpmekngab
