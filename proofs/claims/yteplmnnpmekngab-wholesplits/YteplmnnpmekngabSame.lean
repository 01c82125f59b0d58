/-
  What the statements' own product and comparison do.
-/
import Derived.Test.YteplmnnpmekngabMul
import Derived.Test.YteplmnnpmekngabAwake
namespace Go.Proofs.Yteplmnnpmekngab
open Go.RowKit

set_option maxRecDepth 100000 in
set_option maxHeartbeats 1000000 in
/-- The statements' own product: what Mul answers, and whether it was refused. -/
theorem ltimes_any (na nb : Bool) (ax ay : Option Addr) (nx cx ny cy : Nat) (xs ys : List Nat) (w : World) (hx : Sl .u32 w (.slice ax nx cx) xs) (hy : Sl .u32 w (.slice ay ny cy) ys) (ox : okw xs) (oy : okw ys)
    (bx : xs.length ≤ 1000000) (by_ : ys.length ≤ 1000000) :
    Calls Try.prog 9 #[.agg #[.bool na, .slice ax nx cx], .agg #[.bool nb, .slice ay ny cy]] w fun e w' => ∃ neg a n cap k, e = .returned (.tuple #[.agg #[.bool neg, .slice a n cap], .bool (k == 0)]) ∧ SumRes w.heap.size w' (.agg #[.bool neg, .slice a n cap]) k (val xs) (val ys) (zv na (val xs) * zv nb (val ys)) ∧ Below w.heap.size w w' := by
  obtain ⟨hA, hB, hR, hB0⟩ := boxes3 w na nb false ax ay none nx cx ny cy 0 0 24
  go_enter Try.func9, Try.ntmps9
  go_wp2_with fail
  refine (mul_any na nb ax ay nx cx ny cy xs ys _ (hx.below hB0) (hy.below hB0) ox oy bx by_).mono ?_
  rintro e w1 ⟨n3, a3, l3, c3, k, rfl, hs, hb1⟩
  have hR1 := hR.below hb1
  have hBw : Below w.heap.size w w1 := hB0.trans (hb1.mono hB0.size)
  have hs2 := (hs.mono hB0.size).put hR1 n3 (.slice a3 l3 c3)
  have hB2 : Below (put2 w1 (w.heap.size + 1 + 1) n3 (.slice a3 l3 c3)).heap.size (put2 w1 (w.heap.size + 1 + 1) n3 (.slice a3 l3 c3)) ((put2 w1 (w.heap.size + 1 + 1) n3 (.slice a3 l3 c3)).alloc (.cells #[.bool n3, .slice a3 l3 c3] 24)) := (Below.refl _ _).alloc (Nat.le_refl _) _
  have hBw2 := below_put2 (N := w.heap.size + 1 + 1) hBw (by omega) n3 (.slice a3 l3 c3)
  have hBw3 : Below w.heap.size w ((put2 w1 (w.heap.size + 1 + 1) n3 (.slice a3 l3 c3)).alloc (.cells #[.bool n3, .slice a3 l3 c3] 24)) := hBw2.trans (hB2.mono hBw2.size)
  have hs3 := hs2.below hB2
  have r0 := hR1.c0
  have r1 := hR1.c1
  have rf0 := hR1.f0
  have rf1 := hR1.f1
  have hlt := hR1.lt
  have hfin := (hR1.put n3 a3 l3 c3).below hB2
  have hg0 := hfin.c0
  have hg1 := hfin.c1
  unfold put2 at hg0 hg1
  clear hA hB hR hs hfin
  go_wp2
  refine bodyPost_ret (v := .tuple #[.agg #[.bool n3, .slice a3 l3 c3], .bool (k == 0)]) ?_ rfl ⟨_, _, _, _, _, rfl, hs3, hBw3⟩
  simp [results, Try.f9, go_sem, hg0, hg1]

/-- Two Ints, sign by sign and word by word. -/
def sameB (na nb : Bool) (xs ys : List Nat) : Bool := decide (na = nb ∧ xs = ys)
theorem same_more {xs ys : List Nat} {k : Nat} (_ : k < xs.length) (h : ∀ j, j < k → xs[j]?.getD 0 = ys[j]?.getD 0) (he : xs[k]?.getD 0 = ys[k]?.getD 0) : ∀ j, j < k + 1 → xs[j]?.getD 0 = ys[j]?.getD 0 := by
  intro j hj
  rcases Nat.lt_or_ge j k with h1 | h1
  · exact h j h1
  · obtain rfl : j = k := by omega
    exact he

set_option maxRecDepth 100000 in
set_option maxHeartbeats 2000000 in
/-- same: two Ints, sign by sign and word by word. -/
theorem same_any (na nb : Bool) (ax ay : Option Addr) (nx cx ny cy : Nat) (xs ys : List Nat) (w : World) (hx : Sl .u32 w (.slice ax nx cx) xs) (hy : Sl .u32 w (.slice ay ny cy) ys) (bx : xs.length ≤ 1000000) :
    Calls Try.prog 13 #[.agg #[.bool na, .slice ax nx cx], .agg #[.bool nb, .slice ay ny cy]] w fun e w' => e = .returned (.bool (sameB na nb xs ys)) ∧ Below w.heap.size w w' := by
  obtain rfl := hx.len
  obtain rfl := hy.len
  have hbs := boxes2 w na nb ax ay xs.length cx ys.length cy 24
  by_cases hn : na = nb
  · subst hn
    by_cases hl : xs.length = ys.length
    · have hn0 : (na != na) = false := by simp
      have hl0 : ((xs.length : Int) != (ys.length : Int)) = false := by simp [hl]
      obtain ⟨b1, o1, hax, sx⟩ := hx.place
      obtain ⟨b2, o2, hay, sy⟩ := hy.place
      have HAX : Hid (xs ≠ [] → ax = some ⟨b1, o1, none⟩ ∧ b1 < w.heap.size) := hax
      have HAY : Hid (ys ≠ [] → ay = some ⟨b2, o2, none⟩ ∧ b2 < w.heap.size) := hay
      have HL : Hid (xs.length = ys.length) := hl
      clear hax hay hx hy hl
      go_enter Try.func13, Try.ntmps13
      go_wp2
      generalize (w.alloc (.cells #[.bool na, .slice ax xs.length cx] 24)).alloc (.cells #[.bool na, .slice ay ys.length cy] 24) = W0 at *
      obtain ⟨hA, hB, hB0⟩ := hbs
      go_loopw [5] (fun iv wr => ∃ k : Nat, k ≤ xs.length ∧ iv = .int .i64 (k : Int) ∧ (∀ j, j < k → xs[j]?.getD 0 = ys[j]?.getD 0) ∧ Box2 wr w.heap.size na ax xs.length cx ∧ Box2 wr (w.heap.size + 1) na ay ys.length cy ∧ Below w.heap.size w wr)
        (fun iv _ => xs.length - (intOf iv).toNat)
      case atStart => exact ⟨0, Nat.zero_le _, rfl, (fun j hj => by omega), hA, hB, hB0⟩
      case round =>
        clear hA hB hB0
        obtain ⟨k, hk, rfl, hs, hA, hB, hB0⟩ := hrel
        have HS : Hid (∀ j, j < k → xs[j]?.getD 0 = ys[j]?.getD 0) := hs
        clear hs
        have p1 := hA.c1
        have p2 := hB.c1
        by_cases hlt : k < xs.length
        · have hxn : xs ≠ [] := by intro h; subst h; simp at hlt
          have hyn : ys ≠ [] := by intro h; have e := HL.out; rw [h] at e; simp only [List.length_nil] at e; omega
          obtain ⟨e1, q1⟩ := HAX.out hxn
          obtain ⟨e2, q2⟩ := HAY.out hyn
          have hly : (k : Int) < (ys.length : Int) := by have := HL.out; omega
          have hcx : wr.cell? ⟨b1, o1 + k, none⟩ = some (.int .u32 ((xs[k]?.getD 0 : Nat) : Int)) := sx.below hB0 q1 k hlt
          have hcy : wr.cell? ⟨b2, o2 + k, none⟩ = some (.int .u32 ((ys[k]?.getD 0 : Nat) : Int)) := sy.below hB0 q2 k (by have := HL.out; omega)
          subst e1
          subst e2
          obtain ⟨x, hx⟩ : ∃ x, xs[k]?.getD 0 = x := ⟨_, rfl⟩
          obtain ⟨y, hy⟩ : ∃ y, ys[k]?.getD 0 = y := ⟨_, rfl⟩
          rw [hx] at hcx
          rw [hy] at hcy
          have HX : Hid (xs[k]?.getD 0 = x) := hx
          have HY : Hid (ys[k]?.getD 0 = y) := hy
          clear hx hy
          by_cases hxy : x = y
          · subst hxy
            have hne : ((x : Int) != (x : Int)) = false := by simp
            go_wp2
            go_region
            all_goals go_wp2
            all_goals go_roundw
            case rel => exact ⟨k + 1, by omega, by go_num, same_more hlt HS.out (HX.out.trans HY.out.symm), hA.below below_drew, hB.below below_drew, hB0.drew⟩
            case measure => simp [intOf]; omega
          · have hne : ((x : Int) != (y : Int)) = true := by rw [bne_iff_ne]; omega
            have hD : sameB na na xs ys = false := by
              simp only [sameB, decide_eq_false_iff_not, true_and]
              intro h
              apply hxy
              rw [← HX.out, ← HY.out, h]
            have HD : Hid (sameB na na xs ys = false) := hD
            clear hD
            go_wp2
            go_region
            all_goals go_wp2
            all_goals go_ret
            exact ⟨by rw [HD.out]; rfl, hB0.drew⟩
        · have hD : sameB na na xs ys = true := by
            simp only [sameB, decide_eq_true_eq, true_and]
            exact ext_get HL.out (fun j hj => HS.out j (by omega))
          have HD : Hid (sameB na na xs ys = true) := hD
          clear hD
          go_wp2
          go_ret
          exact ⟨by rw [HD.out]; rfl, hB0⟩
    · have hn0 : (na != na) = false := by simp
      have hl0 : ((xs.length : Int) != (ys.length : Int)) = true := by rw [bne_iff_ne]; omega
      have HD : Hid (sameB na na xs ys = false) := by
        show _ = _
        simp only [sameB, decide_eq_false_iff_not, true_and]
        intro h
        exact hl (by rw [h])
      have hB0 := hbs.2.2
      clear hbs
      go_enter Try.func13, Try.ntmps13
      go_wp2
      go_ret
      exact ⟨by rw [HD.out]; rfl, hB0⟩
  · have HD : Hid (sameB na nb xs ys = false) := by
      show _ = _
      simp [sameB, hn]
    have hB0 := hbs.2.2
    clear hbs
    cases na <;> cases nb
    · exact absurd rfl hn
    · clear hn
      go_enter Try.func13, Try.ntmps13
      go_wp2
      go_ret
      exact ⟨by rw [HD.out]; rfl, hB0⟩
    · clear hn
      go_enter Try.func13, Try.ntmps13
      go_wp2
      go_ret
      exact ⟨by rw [HD.out]; rfl, hB0⟩
    · exact absurd rfl hn
end Go.Proofs.Yteplmnnpmekngab
