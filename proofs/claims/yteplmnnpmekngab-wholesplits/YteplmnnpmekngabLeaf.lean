/-
  What the leaf functions of package whole do: trim, isLong, cmp.Compare, sign.
-/
import Derived.Test.YteplmnnpmekngabRows
import Derived.Test.YteplmnnpmekngabMem
namespace Go.Proofs.Yteplmnnpmekngab
open Go.RowKit

theorem trim_some (b off cap : Nat) (xs : List Nat) (w : World) (hbig : xs.length ≤ 1000000) (hcap : xs.length ≤ cap) (hc : Seg .u32 w b off xs) :
    Calls Try.prog 20 #[.slice (some ⟨b, off, none⟩) xs.length cap] w fun e w' => e = .returned (.slice (some ⟨b, off, none⟩) (tl xs xs.length) cap) ∧ w' = w := by
  go_enter Try.func20, Try.ntmps20
  go_wp2
  go_loop [3] (fun n => ∃ k : Nat, k ≤ xs.length ∧ n = .int .i64 k ∧ tl xs k = tl xs xs.length) (fun n => (intOf n).toNat)
  case atStart => exact ⟨xs.length, Nat.le_refl _, rfl, rfl⟩
  case round =>
    obtain ⟨k, hk, rfl, ht⟩ := hrel
    have H : Hid (tl xs k = tl xs xs.length) := ht
    clear ht
    cases k with
    | zero =>
      go_wp2
      go_ret
      refine ⟨?_, rfl⟩
      rw [← H.out]
      rfl
    | succ k =>
      have hcell := hc k (by omega)
      go_wp2
      · have h0 : (((xs[k]?.getD 0 : Nat) : Int) == 0) = true := by assumption
        go_round
        case rel =>
          refine ⟨k, by omega, rfl, ?_⟩
          rw [← H.out]
          have h1 : xs[k]?.getD 0 = 0 := by simpa using h0
          simp [tl, h1]
        case measure => simp [intOf]
      · have h0 : (((xs[k]?.getD 0 : Nat) : Int) == 0) = false := by assumption
        go_ret
        refine ⟨?_, rfl⟩
        have h1 : ¬ xs[k]?.getD 0 = 0 := by simpa using h0
        have e : tl xs xs.length = k + 1 := by rw [← H.out]; simp [tl, h1]
        rw [e]
        rfl

theorem trim_none (a : Option Addr) (cap : Nat) (w : World) :
    Calls Try.prog 20 #[.slice a 0 cap] w fun e w' => e = .returned (.slice a 0 cap) ∧ w' = w := by
  go_enter Try.func20, Try.ntmps20
  go_wp2
  refine wp_loop_rounds 1 ?_
  rw [rounds_succ]
  go_wp2
  go_ret
  exact ⟨rfl, rfl⟩

/-- trim, of whatever slice: the same memory, cut. -/
theorem trim_any (a : Option Addr) (n cap : Nat) (xs : List Nat) (w : World) (h : Sl .u32 w (.slice a n cap) xs) (hbig : xs.length ≤ 1000000) :
    Calls Try.prog 20 #[.slice a n cap] w fun e w' => e = .returned (.slice a (tl xs xs.length) cap) ∧ w' = w := by
  rcases h.cases with ⟨rfl, a', cap', e⟩ | ⟨_, b, off, cap', e, hc, hs, _⟩
  · injection e with e1 e2 e3
    subst e1; subst e2; subst e3
    exact trim_none a cap w
  · injection e with e1 e2 e3
    subst e1; subst e2; subst e3
    exact trim_some b off cap xs w hbig hc hs

theorem isLong_any (a : Option Addr) (n cap : Nat) (w : World) :
    Calls Try.prog 21 #[.slice a n cap] w fun e w' => e = .returned (.bool (decide (256 < n))) ∧ w' = w := by
  go_enter Try.func21, Try.ntmps21
  go_wp2
  go_ret
  refine ⟨?_, rfl⟩
  simp
  omega

/-- -1, 0 or 1. -/
def cmpI (a b : Int) : Int := if a < b then -1 else if b < a then 1 else 0

theorem cmpInt_any (a b : Int) (w : World) :
    Calls Try.prog 18 #[.int .i64 a, .int .i64 b] w fun e w' => e = .returned (.int .i64 (cmpI a b)) ∧ w' = w := by
  by_cases h1 : a < b
  · have e : cmpI a b = -1 := by simp [cmpI, h1]
    rw [e]
    go_enter Try.func18, Try.ntmps18
    go_wp2
    go_ret
    exact ⟨rfl, rfl⟩
  · by_cases h2 : b < a
    · have e : cmpI a b = 1 := by simp [cmpI, h1, h2]
      rw [e]
      go_enter Try.func18, Try.ntmps18
      go_wp2
      go_ret
      exact ⟨rfl, rfl⟩
    · have e : cmpI a b = 0 := by simp [cmpI, h1, h2]
      rw [e]
      go_enter Try.func18, Try.ntmps18
      go_wp2
      go_ret
      exact ⟨rfl, rfl⟩

theorem cmpWord_any (a b : Int) (w : World) :
    Calls Try.prog 35 #[.int .u32 a, .int .u32 b] w fun e w' => e = .returned (.int .i64 (cmpI a b)) ∧ w' = w := by
  by_cases h1 : a < b
  · have e : cmpI a b = -1 := by simp [cmpI, h1]
    rw [e]
    go_enter Try.func35, Try.ntmps35
    go_wp2
    go_ret
    exact ⟨rfl, rfl⟩
  · by_cases h2 : b < a
    · have e : cmpI a b = 1 := by simp [cmpI, h1, h2]
      rw [e]
      go_enter Try.func35, Try.ntmps35
      go_wp2
      go_ret
      exact ⟨rfl, rfl⟩
    · have e : cmpI a b = 0 := by simp [cmpI, h1, h2]
      rw [e]
      go_enter Try.func35, Try.ntmps35
      go_wp2
      go_ret
      exact ⟨rfl, rfl⟩

/-- The sign of an Int's value. -/
def sgn (neg : Bool) (n : Nat) : Int := if n = 0 then 0 else if neg then -1 else 1

theorem sign_any (neg : Bool) (a : Option Addr) (n cap : Nat) (xs : List Nat) (w : World) (h : Sl .u32 w (.slice a n cap) xs) (hbig : xs.length ≤ 1000000) :
    Calls Try.prog 17 #[.agg #[.bool neg, .slice a n cap]] w fun e w' => e = .returned (.int .i64 (sgn neg (tl xs xs.length))) ∧ Below w.heap.size w w' := by
  have hb : Below w.heap.size w (w.alloc (.cells #[.bool neg, .slice a n cap] 24)) := (Below.refl _ _).alloc (Nat.le_refl _) _
  have ht := trim_any a n cap xs _ (h.below hb) hbig
  obtain ⟨m, hm⟩ : ∃ m, tl xs xs.length = m := ⟨_, rfl⟩
  rw [hm] at ht ⊢
  clear hm
  go_enter Try.func17, Try.ntmps17
  go_wp2_with fail
  refine ht.mono ?_
  rintro e w' ⟨rfl, rfl⟩
  clear ht
  cases m with
  | zero =>
    go_wp2
    go_ret
    exact ⟨rfl, hb⟩
  | succ m =>
    cases neg with
    | true =>
      go_wp2
      go_ret
      exact ⟨rfl, hb⟩
    | false =>
      go_wp2
      go_ret
      exact ⟨rfl, hb⟩
end Go.Proofs.Yteplmnnpmekngab
