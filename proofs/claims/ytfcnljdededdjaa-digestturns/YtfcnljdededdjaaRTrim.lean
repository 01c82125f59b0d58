/-
  The reference: trim, made, Form, long.
-/
import Derived.Test.YtfcnljdededdjaaHeldD
namespace Go.Proofs.Ytfcnljdededdjaa
open Go.RowKit

/-- Words in a row of their own, from block B on. -/
def Words (B : Nat) (w : World) (v : Value) (ts : List Nat) : Prop := w.ownsRow B 39 1 v ts.length (ts.map fun x : Nat => Value.int .u32 (x : Int))
theorem Words.ow {B : Nat} {w : World} {v : Value} {ts : List Nat} (h : Words B w v ts) : Ow .u32 B w v ts := ow_of_row h
theorem Words.alloc {B : Nat} {w : World} {v : Value} {ts : List Nat} (h : Words B w v ts) (o : Obj) : Words B (w.alloc o) v ts := World.ownsRow.alloc h o
theorem Words.nil (B : Nat) (w : World) : Words B w (.slice none 0 0) [] := ⟨rfl, Or.inl ⟨rfl, rfl⟩⟩

/-- Nothing is appended: a slice that points nowhere, whatever its capacity. -/
theorem run_append_nothing (w : World) (c : Nat) : (Builtin.append_ #[22, 22] 22 #[.slice none 0 0, .slice none 0 c]).run Try.prog w = .ok (.slice none 0 0) w := by
  obtain ⟨i0, hi, hz0, hz1, hz2⟩ := info_parts Try.infoWord
  simp [Builtin.append_, run_underlying Try.underlying22, sizeOf, typeInfo, hi, Builtin.lenOf, Builtin.firstCells]

theorem rtrim_fin {xs : List Nat} {w w1 : World} {v v' : Value} {m : Nat} {ys : List Nat} (hv : v = .slice none 0 0) (hm : m = ys.length) (hys : ys = trimL xs) (h1 : w1.ownsRow w.heap.size 39 1 v' (0 + m) ([] ++ ys.map fun x : Nat => Value.int .u32 (x : Int))) (h2 : w.grownBy w1 v.ownBlock) (h3 : v' = .slice none 0 0 ↔ v = .slice none 0 0 ∧ m = 0) :
    Hid (Words w.heap.size w1 v' (trimL xs) ∧ (trimL xs = [] → v' = .slice none 0 0) ∧ Below w.heap.size w w1) := by
  subst hys; subst hm; subst hv
  show _ ∧ _ ∧ _
  refine ⟨?_, fun h => h3.2 ⟨rfl, ?_⟩, (Below.refl w.heap.size w).grown h2 (Nat.le_refl _) (fun k e => by cases e)⟩
  · unfold Words; simpa using h1
  · rw [h]; rfl

set_option maxHeartbeats 1000000 in
theorem rtrim_some (b off cap : Nat) (xs : List Nat) (w : World) (hbig : xs.length ≤ 1000000) (hcap : xs.length ≤ cap) (hc : Seg .u32 w b off xs) :
    Calls Try.prog 42 #[.slice (some ⟨b, off, none⟩) xs.length cap] w fun e w' => ∃ v, e = .returned v ∧ Words w.heap.size w' v (trimL xs) ∧ (trimL xs = [] → v = .slice none 0 0) ∧ Below w.heap.size w w' := by
  obtain ⟨i0, hi, hz0, hz1, hz2⟩ := info_parts Try.infoWord
  have hl := trimL_length xs
  have hs := seg_cells (hc.take (tl xs xs.length))
  have hle := tl_le xs xs.length
  go_enter Try.func42, Try.ntmps42
  go_wp2
  go_loop [3] (fun n => ∃ k : Nat, k ≤ xs.length ∧ n = .int .i64 k ∧ tl xs k = tl xs xs.length) (fun n => (intOf n).toNat)
  case atStart => exact ⟨xs.length, Nat.le_refl _, rfl, rfl⟩
  case round =>
    obtain ⟨k, hk, rfl, ht⟩ := hrel
    have done : ∀ k, k ≤ xs.length → k = tl xs xs.length → True := fun _ _ _ => trivial
    clear done
    cases k with
    | zero =>
      have e0 : tl xs xs.length = 0 := by rw [← ht]; rfl
      rw [e0] at hs hl
      have hz : trimL xs = [] := List.eq_nil_of_length_eq_zero hl
      have HZ : Hid (trimL xs = []) := hz
      clear hz hl
      clear ht hle e0
      go_wp2_with (at_builtin; refine wpList_append_own _ rfl _ _ 22 rfl w.heap.size 39 i0 (.int .u32 0) 1 4 Try.underlying22 hi hz0 hz1 hz2 rfl (by decide) _ _ _ rfl (Words.nil w.heap.size w) ⟨b, off, none⟩ 0 cap [] rfl rfl (fun j u h => by simp at h) (fun u h => by simp at h) (by decide) (by decide) (Nat.le_refl _) ?_; intro v' w1 hown hgrow hnil; have HF := (rtrim_fin (xs := xs) (ys := []) rfl rfl HZ.out.symm hown hgrow hnil); clear hown hgrow hnil)
      go_ret
      exact ⟨_, rfl, HF.out⟩
    | succ k =>
      have hcell := hc k (by omega)
      have H : Hid (tl xs (k + 1) = tl xs xs.length) := ht
      clear ht
      by_cases h0 : xs[k]?.getD 0 = 0
      · have t0 : (((xs[k]?.getD 0 : Nat) : Int) == 0) = true := by simp [h0]
        have H0 : Hid (xs[k]?.getD 0 = 0) := h0
        clear h0 hs
        go_wp2
        go_round
        case rel =>
          refine ⟨k, by omega, rfl, ?_⟩
          rw [← H.out]
          simp [tl, H0.out]
        case measure => simp [intOf]
      · have t0 : (((xs[k]?.getD 0 : Nat) : Int) == 0) = false := by simp; omega
        have e : tl xs xs.length = k + 1 := by rw [← H.out]; simp [tl, h0]
        rw [e] at hs hl
        have HS : Hid (xs.take (k + 1) = trimL xs) := (by unfold trimL; rw [e]; rfl)
        clear h0 H hle e
        go_wp2_with (at_builtin; refine wpList_append_own _ rfl _ _ 22 rfl w.heap.size 39 i0 (.int .u32 0) 1 4 Try.underlying22 hi hz0 hz1 hz2 rfl (by decide) _ _ _ rfl (Words.nil w.heap.size w) ⟨b, off, none⟩ (k + 1) cap ((xs.take (k + 1)).map fun x : Nat => Value.int .u32 (x : Int)) rfl (by simp; omega) hs (words_one _ _) (by unfold maxLen; simp; omega) (by simp; omega) (Nat.le_refl _) ?_; intro v' w1 hown hgrow hnil; have HF := (rtrim_fin (xs := xs) (ys := xs.take (k + 1)) rfl (by simp; omega) HS.out hown hgrow hnil); clear hown hgrow hnil)
        go_ret
        exact ⟨_, rfl, HF.out⟩

theorem rtrim_empty (ad : Addr) (cap : Nat) (w : World) :
    Calls Try.prog 42 #[.slice (some ad) 0 cap] w fun e w' => ∃ v, e = .returned v ∧ Words w.heap.size w' v (trimL []) ∧ (trimL [] = [] → v = .slice none 0 0) ∧ Below w.heap.size w w' := by
  obtain ⟨i0, hi, hz0, hz1, hz2⟩ := info_parts Try.infoWord
  go_enter Try.func42, Try.ntmps42
  go_wp2
  refine wp_loop_rounds 1 ?_
  rw [rounds_succ]
  go_wp2_with (at_builtin; refine wpList_append_own _ rfl _ _ 22 rfl w.heap.size 39 i0 (.int .u32 0) 1 4 Try.underlying22 hi hz0 hz1 hz2 rfl (by decide) _ _ _ rfl (Words.nil w.heap.size w) ad 0 cap [] rfl rfl (fun j u h => by simp at h) (fun u h => by simp at h) (by decide) (by decide) (Nat.le_refl _) ?_; intro v' w1 hown hgrow hnil; have HF := (rtrim_fin (xs := []) (ys := []) rfl rfl rfl hown hgrow hnil); clear hown hgrow hnil)
  go_ret
  exact ⟨_, rfl, HF.out⟩

theorem rtrim_none (cap : Nat) (w : World) :
    Calls Try.prog 42 #[.slice none 0 cap] w fun e w' => e = .returned (.slice none 0 0) ∧ w' = w := by
  have ha := run_append_nothing
  go_enter Try.func42, Try.ntmps42
  go_wp2
  refine wp_loop_rounds 1 ?_
  rw [rounds_succ]
  go_wp2
  go_ret
  exact ⟨rfl, rfl⟩

/-- The reference's trim: new words. -/
theorem rtrim_any (a : Option Addr) (n cap : Nat) (xs : List Nat) (w : World) (h : Sl .u32 w (.slice a n cap) xs) (hbig : xs.length ≤ 1000000) :
    Calls Try.prog 42 #[.slice a n cap] w fun e w' => ∃ a' c', e = .returned (.slice a' (tl xs xs.length) c') ∧ Words w.heap.size w' (.slice a' (tl xs xs.length) c') (trimL xs) ∧ (trimL xs = [] → a' = none ∧ c' = 0) ∧ Below w.heap.size w w' := by
  have fin : ∀ e w', (∃ v, e = Ending.returned v ∧ Words w.heap.size w' v (trimL xs) ∧ (trimL xs = [] → v = .slice none 0 0) ∧ Below w.heap.size w w') → ∃ a' c', e = .returned (.slice a' (tl xs xs.length) c') ∧ Words w.heap.size w' (.slice a' (tl xs xs.length) c') (trimL xs) ∧ (trimL xs = [] → a' = none ∧ c' = 0) ∧ Below w.heap.size w w' := by
    rintro e w' ⟨v, rfl, h1, h2, h3⟩
    obtain ⟨a', c', rfl⟩ := h1.ow.form
    rw [trimL_length] at h1 h2 ⊢
    exact ⟨a', c', rfl, h1, fun h => by have := h2 h; injection this with e1 e2 e3; exact ⟨e1, e3⟩, h3⟩
  rcases h.cases with ⟨rfl, a', cap', e⟩ | ⟨_, b, off, cap', e, hc, hs, _⟩
  · injection e with e1 e2 e3
    subst e1; subst e2; subst e3
    cases a with
    | none => exact (rtrim_none cap w).mono (by rintro e w' ⟨rfl, rfl⟩; exact ⟨none, 0, rfl, Words.nil _ _, fun _ => ⟨rfl, rfl⟩, Below.refl _ _⟩)
    | some ad =>
      refine (rtrim_empty ad cap w).mono ?_
      rintro e w' h
      exact fin e w' h
  · injection e with e1 e2 e3
    subst e1; subst e2; subst e3
    exact (rtrim_some b off cap xs w hbig hc hs).mono fin
end Go.Proofs.Ytfcnljdededdjaa
