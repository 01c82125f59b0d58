/-
  What the document fixes of marks and sweeps.
-/
import Derived.Test.YtbnmnmbfdfgohaaDoorSwLaw4
namespace Go.Proofs.YtbnmnmbfdfgohaaDoor
open Go.RowKit Go.WideShapes

theorem ldmark_any {w : World} {B g q : Nat} {ss rs : List So} (h : LdV w B g q ss rs) (hn : ss.length ≤ 1000) (ld : Bool) {ra : Option Addr} {rn rc : Nat} {R : List Int} (hR : Lz w w.heap.size ra rn rc R) (hRl : R.length ≤ 100000) (hT : Tab w) :
    Calls Tryd.prog 11 #[.pointer (some ⟨g, 0, none⟩), .slice ra rn rc, ldV ld] w fun e w' => ∃ v f, e = .returned v ∧ IntsR w.heap.size w' v (nbs f ss.length) ∧ (∀ k, f k = true ↔ Rch (tk ss) (lsOf ld ss) R k) ∧ LdV w' B g q ss rs ∧ Below w.heap.size w w' := by
  obtain ⟨X, Y, Z, h⟩ := h
  refine (mark_any h.sl.sla (by omega) h.lss ld hR hRl hT).mono ?_
  rintro e w' ⟨v, f, rfl, h1, h2, h3⟩
  exact ⟨v, f, rfl, h1, h2, ⟨X, Y, Z, h.below h3⟩, h3⟩
theorem frees_kept (l : List Int) : ∀ (ss : List So) (k : Nat), (nts (frees ss l) k).taken = true → nts (frees ss l) k = nts ss k := by
  induction l with
  | nil => intro ss k _; rfl
  | cons i l ih =>
    intro ss k hk
    have h1 := ih (freeS ss i) k hk
    have h2 : (nts (freeS ss i) k).taken = true := by rw [← h1]; exact hk
    exact h1.trans (freeS_kept ss i k h2)
theorem ldsweep_any {w : World} {B g q : Nat} {ss rs : List So} (h : LdV w B g q ss rs) (hn : ss.length ≤ 1000) (ld : Bool) {ra : Option Addr} {rn rc : Nat} {R : List Int} (hR : Lz w w.heap.size ra rn rc R) (hRl : R.length ≤ 100000) (hT : Tab w) :
    Calls Tryd.prog 16 #[.pointer (some ⟨g, 0, none⟩), .slice ra rn rc, ldV ld] w fun e w' => ∃ v f, e = .returned v ∧ IntsR w.heap.size w' v (nbs f ss.length) ∧ (∀ k, f k = true ↔ tk ss k = true ∧ ¬ Rch (tk ss) (lsOf ld ss) R k) ∧ LdV w' B g q (frees ss (nbs f ss.length)) rs ∧ Below B w w' := by
  obtain ⟨X, Y, Z, h⟩ := h
  refine (sweep_any h.sl (by omega) h.lss ld hR hRl hT).mono ?_
  rintro e w' ⟨v, f, X', rfl, h1, h2, h3, h4, h5⟩
  exact ⟨v, f, rfl, h1, h2, ⟨X', Y, Z, h.slots h3 h4 h5 (frees_kept _ ss)⟩, h5.below h.xb h.rq.top.2⟩
/-- The lists of the document's example. -/
def awG (B : Nat) : Nat → Sh
  | 0 => ⟨some ⟨B, 0, none⟩, 1, 1, [1]⟩
  | 1 => ⟨some ⟨B + 1, 0, none⟩, 1, 1, [0]⟩
  | _ => ⟨some ⟨B + 1 + 1, 0, none⟩, 0, 0, []⟩
def awW (w : World) : World := (((w.alloc (.cells #[.int .i64 1] 3)).alloc (.cells #[.int .i64 0] 3)).alloc (.cells #[] 3)).alloc (.cells #[.slice (some ⟨w.heap.size, 0, none⟩) 1 1, .slice (some ⟨w.heap.size + 1, 0, none⟩) 1 1, .slice (some ⟨w.heap.size + 1 + 1, 0, none⟩) 0 0] 23)
theorem lz_one {w : World} {B b : Nat} {x : Int} (hc : w.cell? ⟨b, 0, none⟩ = some (.int .i64 x)) (hb : b < B) (hx : -9223372036854775808 ≤ x ∧ x ≤ 9223372036854775807) : Lz w B (some ⟨b, 0, none⟩) 1 1 [x] := by
  refine ⟨rfl, Nat.le_refl _, fun y hy => by simp at hy; rw [hy]; exact hx, b, 0, fun _ => ⟨rfl, hb⟩, fun j hj => ?_⟩
  obtain rfl : j = 0 := by omega
  exact hc
theorem aw_lists (w : World) : LLs (awW w) (some ⟨w.heap.size + 1 + 1 + 1, 0, none⟩) 3 3 (awG w.heap.size) ∧ Below w.heap.size w (awW w) := by
  have hsz : (awW w).heap.size = w.heap.size + 4 := by simp [awW]
  have hb : Below w.heap.size w (awW w) := by
    unfold awW
    exact ((((Below.refl _ w).alloc (Nat.le_refl _) _).alloc (by simp) _).alloc (by simp; omega) _).alloc (by simp; omega) _
  have h0 : (awW w).cell? ⟨w.heap.size, 0, none⟩ = some (.int .i64 1) := by
    unfold awW
    rw [World.cell?_of_block (Below.heap_alloc _ _ _ (by simp; omega)), World.cell?_of_block (Below.heap_alloc _ _ _ (by simp; omega)), World.cell?_of_block (Below.heap_alloc _ _ _ (by simp)), World.cell?_alloc_at _ _ _ _ rfl]
    rfl
  have h1 : (awW w).cell? ⟨w.heap.size + 1, 0, none⟩ = some (.int .i64 0) := by
    unfold awW
    rw [World.cell?_of_block (Below.heap_alloc _ _ _ (by simp)), World.cell?_of_block (Below.heap_alloc _ _ _ (by simp)), World.cell?_alloc_at _ _ _ _ (by simp)]
    rfl
  have h3 : ∀ j v, #[Value.slice (some ⟨w.heap.size, 0, none⟩) 1 1, .slice (some ⟨w.heap.size + 1, 0, none⟩) 1 1, .slice (some ⟨w.heap.size + 1 + 1, 0, none⟩) 0 0][j]? = some v → (awW w).cell? ⟨w.heap.size + 1 + 1 + 1, j, none⟩ = some v := by
    intro j v hj
    unfold awW
    rw [World.cell?_alloc_at _ _ _ _ (by simp)]
    exact hj
  refine ⟨⟨Nat.le_refl _, w.heap.size + 1 + 1 + 1, 0, fun _ => ⟨rfl, by omega⟩, fun i hi => ?_⟩, hb⟩
  rw [Nat.zero_add]
  match i, hi with
  | 0, _ => exact ⟨h3 0 _ rfl, lz_one h0 (by omega) (by decide), (fun e => by cases e)⟩
  | 1, _ => exact ⟨h3 1 _ rfl, lz_one h1 (by omega) (by decide), (fun e => by cases e)⟩
  | 2, _ => exact ⟨h3 2 _ rfl, Lz.nil _ _ _ _, (fun e => by cases e)⟩
/-- What is reached in the example. -/
theorem aw_rch {ss : List So} (ht : ∀ k, k < 3 → (nts ss k).taken = true) (hs : ∀ B k, (nts ss k).taken = true → (nts ss k).has.l = (awG B k).l) (k : Nat) : Rch (tk ss) (lsOf true ss) [0] k ↔ k = 0 ∨ k = 1 := by
  have hls : ∀ k, k < 3 → lsOf true ss k = (awG 0 k).l := fun k hk => hs 0 k (ht k hk)
  constructor
  · intro h
    induction h with
    | root _ h2 => simp at h2; omega
    | lead h1 _ h3 ih =>
      rcases ih with rfl | rfl
      · rw [hls 0 (by omega)] at h3; simp [awG] at h3; omega
      · rw [hls 1 (by omega)] at h3; simp [awG] at h3; omega
  · have r0 : Rch (tk ss) (lsOf true ss) [0] 0 := .root (ht 0 (by omega)) (by simp)
    rintro (rfl | rfl)
    · exact r0
    · exact .lead r0 (ht 1 (by omega)) (by rw [hls 0 (by omega)]; simp [awG])
set_option maxRecDepth 100000 in
set_option maxHeartbeats 1000000 in
theorem awake12_any (w : World) (hT : Tab w) : Calls Tryd.prog 9 #[] w fun e w' => e = .returned (.bool true) ∧ Below w.heap.size w w' := by
  obtain ⟨hLL, hBw⟩ := aw_lists w
  have CL := laid_any hLL (by omega) (fun i hi => by match i, hi with | 0, _ => (show 1 ≤ 60; omega) | 1, _ => (show 1 ≤ 60; omega) | 2, _ => (show 0 ≤ 60; omega)) (Lz.nil (awW w) (awW w).heap.size 0 none)
  have htl := hT.lt
  have HT := Lib.hid hT
  have HBW := Lib.hid hBw
  clear hLL hT hBw
  have HAW : Hid (awW w = (((w.alloc (.cells #[.int .i64 1] 3)).alloc (.cells #[.int .i64 0] 3)).alloc (.cells #[] 3)).alloc (.cells #[.slice (some ⟨w.heap.size, 0, none⟩) 1 1, .slice (some ⟨w.heap.size + 1, 0, none⟩) 1 1, .slice (some ⟨w.heap.size + 1 + 1, 0, none⟩) 0 0] 23)) := rfl
  go_enter Tryd.func9, Tryd.ntmps9
  go_wp2_with fail
  rw [← HAW.out]
  refine CL.mono ?_
  rintro e w1 ⟨g, q, ss, rfl, hL⟩
  clear CL HAW
  have hB1 : Below w.heap.size w w1 := HBW.out.trans (hL.be.mono HBW.out.size)
  have hlen := hL.len
  have hrch := aw_rch (hL.none rfl) (fun B k hk => by
    have h1 := hL.ls k hk
    have h2 : (awG (awW w).heap.size k).l = (awG B k).l := by match k with | 0 => rfl | 1 => rfl | (k + 2) => rfl
    have h3 : (awG w.heap.size k).l = (awG B k).l := by match k with | 0 => rfl | 1 => rfl | (k + 2) => rfl
    rw [h1]
    first | exact h3 | exact h2)
  have hba : Below w1.heap.size w1 (w1.alloc (.cells #[.int .i64 0] 3)) := (Below.refl _ w1).alloc (Nat.le_refl _) _
  have hca : (w1.alloc (.cells #[.int .i64 0] 3)).cell? ⟨w1.heap.size, 0, none⟩ = some (.int .i64 0) := by rw [World.cell?_alloc_at _ _ _ _ rfl]; rfl
  have hB2 : Below w.heap.size w (w1.alloc (.cells #[.int .i64 0] 3)) := hB1.trans (hba.mono hB1.size)
  have hLd : LdV (w1.alloc (.cells #[.int .i64 0] 3)) (awW w).heap.size g q ss ss := by
    obtain ⟨X, Y, Z, h⟩ := hL.ld
    exact ⟨X, Y, Z, h.below hba⟩
  have CM := ldmark_any hLd (by omega) true (lz_one hca (by simp) (by decide)) (by simp) (HT.out.below hB2 htl)
  have HRCH := Lib.hid hrch
  have HB2 := Lib.hid hB2
  have HLEN := Lib.hid hlen
  have HTK : Hid (∀ k, k < 3 → tk ss k = true) := hL.none rfl
  clear hL hB1 hrch hba hca hB2 hLd hlen
  unfold ldV at CM
  simp only [if_true] at CM
  go_wp2_with fail
  refine CM.mono ?_
  rintro e w2 ⟨v, f, rfl, hI, hf, hLd, hB3⟩
  clear CM
  have hn : nbs f ss.length = [0, 1] := by
    have e0 : f 0 = true := (hf 0).2 ((HRCH.out 0).2 (Or.inl rfl))
    have e1 : f 1 = true := (hf 1).2 ((HRCH.out 1).2 (Or.inr rfl))
    have e2 : f 2 = false := by
      cases e : f 2 with
      | false => rfl
      | true => rcases (HRCH.out 2).1 ((hf 2).1 e) with h | h <;> omega
    rw [HLEN.out, nbs_succ, nbs_succ, nbs_succ, e0, e1, e2]
    rfl
  rw [hn] at hI
  obtain ⟨va, vc, rfl, hrd⟩ := hI.rdl
  have hbc : Below w2.heap.size w2 (w2.alloc (.cells #[.int .i64 0, .int .i64 1] 3)) := (Below.refl _ w2).alloc (Nat.le_refl _) _
  have hrd2 : Rdl (w2.alloc (.cells #[.int .i64 0, .int .i64 1] 3)) (some ⟨w2.heap.size, 0, none⟩) 2 [0, 1] := by
    refine ⟨rfl, w2.heap.size, 0, fun _ => rfl, fun j hj => ?_⟩
    rw [World.cell?_alloc_at _ _ _ _ rfl]
    match j, hj with
    | 0, _ => rfl
    | 1, _ => rfl
  have CS := same_eq (c1 := vc) (c2 := 2) (hrd.below hbc) hrd2 (by simp)
  have HB3 := Lib.hid (HB2.out.trans ((hB3.mono HB2.out.size).trans (hbc.mono (by have := HB2.out.size; have := hB3.size; omega))))
  have hLd2 : LdV (w2.alloc (.cells #[.int .i64 0, .int .i64 1] 3)) (awW w).heap.size g q ss ss := by
    obtain ⟨X, Y, Z, h⟩ := hLd
    exact ⟨X, Y, Z, h.below hbc⟩
  have HLD := Lib.hid hLd2
  clear hI hf hLd hB3 hrd hrd2 hbc hLd2 hn
  go_wp2_with fail
  refine CS.mono ?_
  clear CS
  generalize w2.alloc (.cells #[.int .i64 0, .int .i64 1] 3) = w3 at *
  rintro e w4 ⟨rfl, hB4⟩
  have hba : Below w4.heap.size w4 (w4.alloc (.cells #[.int .i64 0] 3)) := (Below.refl _ w4).alloc (Nat.le_refl _) _
  have hca : (w4.alloc (.cells #[.int .i64 0] 3)).cell? ⟨w4.heap.size, 0, none⟩ = some (.int .i64 0) := by rw [World.cell?_alloc_at _ _ _ _ rfl]; rfl
  have hB5 : Below w3.heap.size w3 (w4.alloc (.cells #[.int .i64 0] 3)) := hB4.trans (hba.mono hB4.size)
  have hLd : LdV (w4.alloc (.cells #[.int .i64 0] 3)) (awW w).heap.size g q ss ss := by
    obtain ⟨X, Y, Z, h⟩ := HLD.out
    exact ⟨X, Y, Z, h.below hB5⟩
  have HB5 := Lib.hid (HB3.out.trans (hB5.mono HB3.out.size))
  have CW := ldsweep_any hLd (by have := HLEN.out; omega) true (lz_one hca (by simp) (by decide)) (by simp) (HT.out.below HB5.out htl)
  unfold ldV at CW
  simp only [if_true] at CW
  clear hba hca hB5 hLd HLD hB4
  go_wp2_with fail
  refine CW.mono ?_
  clear CW
  rintro e w5 ⟨v5, f5, rfl, hI, hf, _, hB6⟩
  have hn : nbs f5 ss.length = [2] := by
    have e0 : f5 0 = false := by
      cases e : f5 0 with
      | false => rfl
      | true => exact absurd ((HRCH.out 0).2 (Or.inl rfl)) ((hf 0).1 e).2
    have e1 : f5 1 = false := by
      cases e : f5 1 with
      | false => rfl
      | true => exact absurd ((HRCH.out 1).2 (Or.inr rfl)) ((hf 1).1 e).2
    have e2 : f5 2 = true := (hf 2).2 ⟨HTK.out 2 (by omega), fun h => by rcases (HRCH.out 2).1 h with h | h <;> omega⟩
    rw [HLEN.out, nbs_succ, nbs_succ, nbs_succ, e0, e1, e2]
    rfl
  rw [hn] at hI
  obtain ⟨va, vc, rfl, hrd⟩ := hI.rdl
  have hbc : Below w5.heap.size w5 (w5.alloc (.cells #[.int .i64 2] 3)) := (Below.refl _ w5).alloc (Nat.le_refl _) _
  have hrd2 : Rdl (w5.alloc (.cells #[.int .i64 2] 3)) (some ⟨w5.heap.size, 0, none⟩) 1 [2] := by
    refine ⟨rfl, w5.heap.size, 0, fun _ => rfl, fun j hj => ?_⟩
    rw [World.cell?_alloc_at _ _ _ _ rfl]
    match j, hj with
    | 0, _ => rfl
  have CS := same_eq (c1 := vc) (c2 := 1) (hrd.below hbc) hrd2 (by simp)
  have hB7 : Below w.heap.size w w5 := HB5.out.trans (hB6.mono HBW.out.size)
  have HB8 := Lib.hid (hB7.trans (hbc.mono hB7.size))
  clear hI hf hrd hrd2 hbc hB6 hn hB7
  go_wp2_with fail
  refine CS.mono ?_
  rintro e w6 ⟨rfl, hB9⟩
  clear CS
  go_wp2
  go_ret
  exact ⟨rfl, HB8.out.trans (hB9.mono HB8.out.size)⟩
end Go.Proofs.YtbnmnmbfdfgohaaDoor
