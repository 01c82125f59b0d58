/-
  weight, large.
-/
import Derived.Test.YtfcgogpnbmikmaaGreatDoorNdMem
namespace Go.Proofs.YtfcgogpnbmikmaaGreatDoor
open Go.RowKit Go.WideShapes
namespace Nd
open Lx

/-- What weight tells: exactly, up to left; else something above. -/
structure WtR (t : Tr) (left r : Int) : Prop where
  lo : (wt t : Int) ≤ left → r = (wt t : Int)
  hi : left < (wt t : Int) → left < r
  pos : 1 ≤ r
  bd : r ≤ left + 1125899906842624
set_option maxRecDepth 100000 in
set_option maxHeartbeats 4000000 in
theorem weight_any {ok : Nat → Prop} : ∀ (t : Tr) (x : Nv) (left : Int) (w : World), Rd w ok t x → Sz t → (∀ b, ok b → b < w.heap.size) → 0 ≤ left → left ≤ 3000 →
    Calls Tryz.prog 18 #[x.v, .int .i64 left] w fun e w' => ∃ r, e = .returned (.int .i64 r) ∧ WtR t left r ∧ Below w.heap.size w w' := by
  intro t
  induction t with
  | no => exact fun _ _ _ h => h.elim
  | mk k a s neg mg n kid ih =>
    rintro ⟨xk, xa, xs, xn, xm, xkv⟩ left w ⟨h1, h2, h3, h4, h5, ka, kc, h6, h7, b, off, h8, ys, h9⟩ ⟨z1, z2, z3, z4⟩ hok hl0 hl1
    simp only at h1 h2 h3 h4 h5 h6
    subst h1 h2 h3 h4 h6
    obtain ⟨ma, mc, rfl, -, -, -⟩ := h5
    simp only [Nv.v]
    have HIH := Lib.hid ih
    have H9 := Lib.hid h9
    have H8 := Lib.hid h8
    have HZ4 := Lib.hid z4
    have HOK := Lib.hid hok
    clear ih h9 h8 z4 hok
    go_enter Tryz.func18, Tryz.ntmps18
    have e0 : IntKind.i64.wrap (1 + (xs.size : Int)) = 1 + (xs.size : Int) := i64_small (by omega) (by omega)
    have e0' : IntKind.i64.wrap (1 + (xs.size : Int) + (mg.length : Int)) = 1 + (xs.size : Int) + (mg.length : Int) := i64_small (by omega) (by omega)
    go_wp2_with fail
    obtain ⟨W, hW⟩ : ∃ W, w.alloc (.cells #[.int .i64 xk, .int .i64 xa, .string xs, .bool xn, .slice ma mg.length mc, .slice ka n kc] 27) = W := ⟨_, rfl⟩
    have hbW : Below w.heap.size w W := by rw [← hW]; exact (Below.refl _ w).alloc (Nat.le_refl _) _
    rw [hW]
    have hsz : W.heap.size = w.heap.size + 1 := by rw [← hW]; simp
    have hbx : W.cell? ⟨w.heap.size, 5, none⟩ = some (.slice ka n kc) := by rw [← hW]; exact World.cell?_alloc_at _ _ _ _ rfl
    have HBW := Lib.hid hbW
    have HSZ := Lib.hid hsz
    have HBX := Lib.hid hbx
    clear hbW hsz hbx hW
    go_loopg [5, 6] n (fun gk v5 v6 wr => ∃ (i : Nat) (r : Int), i + gk = n ∧ v6 = .int .i64 (i : Int) ∧ v5 = .int .i64 r ∧ ((1 + xs.size + mg.length + sm i (fun i => wt (kid i)) : Nat) ≤ left → r = ((1 + xs.size + mg.length + sm i (fun i => wt (kid i)) : Nat) : Int)) ∧ (left < ((1 + xs.size + mg.length + sm i (fun i => wt (kid i)) : Nat) : Int) → left < r) ∧ 1 ≤ r ∧ r ≤ left + 1125899906842624 ∧ Below W.heap.size W wr)
    case atStart =>
      refine ⟨0, 1 + (xs.size : Int) + (mg.length : Int), by omega, rfl, ?_, ?_, ?_, by omega, by omega, Below.refl _ _⟩
      · rfl
      · intro _; simp [sm]
      · simp only [sm]; intro h; omega
    case round =>
      obtain ⟨i, r, hig, rfl, rfl, hlo, hhi, hp, hbd, hB⟩ := hrel
      have HB := Lib.hid hB
      have HLO := Lib.hid hlo
      have HHI := Lib.hid hhi
      have c5 := (hB.cell (p := ⟨w.heap.size, 5, none⟩) (by show w.heap.size < _; rw [HSZ.out]; omega)).trans HBX.out
      have k0 : (0 : Int) ≤ (i : Int) := by omega
      clear hlo hhi hB
      by_cases hin : i < n
      · have k1 : (i : Int) < (n : Int) := by omega
        by_cases hrl : r ≤ left
        · obtain ⟨rfl, hokb⟩ := H8.out (by omega)
          obtain ⟨hat, hrd⟩ := H9.out i hin
          have hbl := HOK.out b hokb
          have hsame : ∀ k, k < w.heap.size → wr.heap[k]? = w.heap[k]? := fun k hk => (HB.out.block k (by have := HSZ.out; omega)).trans (HBW.out.block k hk)
          have hat := hat.same (hsame b hbl)
          have hrd := hrd.same (w' := wr) (fun b hb => hsame b (HOK.out b hb))
          obtain ⟨p0, p1, p2, p3, p4, p5⟩ := hat
          have C := HIH.out i (ys i) (left - r) wr hrd (HZ4.out i hin) (fun b hb => Nat.lt_of_lt_of_le (HOK.out b hb) (by have := HB.out.size; have := HSZ.out; omega)) (by omega) (by omega)
          simp only [Nv.v] at C
          generalize ys i = y at *
          have e1 : IntKind.i64.wrap (left - r) = left - r := i64_small (by omega) (by omega)
          have e2 : IntKind.i64.wrap ((i : Int) + 1) = ((i + 1 : Nat) : Int) := by rw [i64_small (by omega) (by omega)]; omega
          clear hrd hsame
          go_wp2_with fail
          refine C.mono ?_
          rintro e w2 ⟨r2, rfl, hR, hb2⟩
          have e3 : IntKind.i64.wrap (r + r2) = r + r2 := by have := hR.pos; have := hR.bd; exact i64_small (by omega) (by omega)
          have HR := Lib.hid hR
          clear C hR
          go_wp2_with fail
          go_roundg (gk - 1)
          case measure => omega
          case rel =>
            have h1 := HLO.out
            have h2 := HHI.out
            have h3 := HR.out
            have hs : (1 + xs.size + mg.length + sm (i + 1) (fun i => wt (kid i)) : Nat) = 1 + xs.size + mg.length + sm i (fun i => wt (kid i)) + wt (kid i) := by simp only [sm]; omega
            generalize 1 + xs.size + mg.length + sm i (fun i => wt (kid i)) = S at *
            have hS : r = (S : Int) := by
              rcases Int.lt_or_le left (S : Int) with z | z
              · have := h2 z; omega
              · exact h1 z
            refine ⟨i + 1, r + r2, by omega, rfl, rfl, ?_, ?_, ?_, ?_, HB.out.trans (hb2.mono HB.out.size)⟩
            · rw [hs]
              intro h
              have := h3.lo (by omega)
              omega
            · rw [hs]
              intro h
              have := h3.hi (by omega)
              omega
            · have := h3.pos; omega
            · have := h3.bd; omega
        · have k2 : ¬ r ≤ left := hrl
          go_wp2_with fail
          go_ret
          refine ⟨r, rfl, ⟨fun h => ?_, fun _ => by omega, hp, hbd⟩, HBW.out.trans (HB.out.mono (by rw [HSZ.out]; omega))⟩
          have h1 := HLO.out
          simp only [wt] at h
          have hm := sm_le (fun i => wt (kid i)) (Nat.le_of_lt hin)
          have := h1 (by omega)
          omega
      · obtain rfl : i = n := by omega
        have k1 : ¬ (i : Int) < (i : Int) := by omega
        go_wp2_with fail
        go_ret
        refine ⟨r, rfl, ⟨fun h => ?_, fun h => ?_, hp, hbd⟩, HBW.out.trans (HB.out.mono (by rw [HSZ.out]; omega))⟩
        · have h1 := HLO.out
          simp only [wt] at h ⊢
          exact h1 h
        · simp only [wt] at h
          exact HHI.out h
set_option maxRecDepth 100000 in
/-- large: does a tree weigh more than 3000? -/
theorem large_any {ok : Nat → Prop} (t : Tr) (x : Nv) (w : World) (h : Rd w ok t x) (hz : Sz t) (hok : ∀ b, ok b → b < w.heap.size) :
    Calls Tryz.prog 6 #[x.v] w fun e w' => e = .returned (.bool (decide (3000 < wt t))) ∧ Below w.heap.size w w' := by
  obtain ⟨xk, xa, xs, xn, xm, xkv⟩ := x
  have C := fun o => weight_any t ⟨xk, xa, xs, xn, xm, xkv⟩ 3000 (w.alloc o) (h.same (fun b hb => Below.heap_alloc _ _ _ (hok b hb))) hz (fun b hb => by have := hok b hb; simp; omega) (by omega) (by omega)
  simp only [Nv.v] at C ⊢
  clear h hz hok
  go_enter Tryz.func6, Tryz.ntmps6
  go_wp2_with fail
  refine (C _).mono ?_
  rintro e w2 ⟨r, rfl, hR, hb⟩
  have hd : decide (3000 < r) = decide (3000 < wt t) := by
    have h1 := hR.lo
    have h2 := hR.hi
    by_cases hw : (3000 : Int) < (wt t : Int)
    · rw [decide_eq_true (h2 hw), decide_eq_true (by omega)]
    · have := h1 (by omega)
      rw [decide_eq_false (by omega), decide_eq_false (by omega)]
  have HD := Lib.hid hd
  have HB := Lib.hid hb
  clear hR hd C
  go_wp2_with fail
  go_ret
  exact ⟨by rw [HD.out]; rfl, ((Below.refl _ w).alloc (Nat.le_refl _) _).trans (HB.out.mono (by simp))⟩
end Nd
end Go.Proofs.YtfcgogpnbmikmaaGreatDoor
