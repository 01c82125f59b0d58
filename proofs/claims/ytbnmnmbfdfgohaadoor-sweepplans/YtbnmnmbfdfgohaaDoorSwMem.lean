/-
  Sets of bits in memory: unmarked, put, take.
-/
import Derived.Test.YtbnmnmbfdfgohaaDoorSmAdd2
import Derived.Test.YtbnmnmbfdfgohaaDoorSwMath
import Derived.Deep.RegionHeld3
import Derived.Deep.CutRange
namespace Go.Proofs.YtbnmnmbfdfgohaaDoor
open Go.RowKit Go.WideShapes

def wls (m : Nat) (W : Nat → Nat) : List Value := (List.range m).map fun j => Value.int .u64 ((W j : Nat) : Int)
theorem wls_len (m : Nat) (W : Nat → Nat) : (wls m W).length = m := by simp [wls]
theorem wls_get (m : Nat) (W : Nat → Nat) (j : Nat) (h : j < m) : (wls m W)[j]? = some (.int .u64 ((W j : Nat) : Int)) := by simp [wls, h]
theorem wls_set (m : Nat) (W : Nat → Nat) (j v : Nat) : (wls m W).set j (.int .u64 ((v : Nat) : Int)) = wls m (updN W j v) := by
  apply List.ext_getElem?
  intro k
  rw [List.getElem?_set]
  by_cases hk : k < m
  · rw [wls_get m _ k hk, wls_get m _ k hk, wls_len]
    unfold updN
    by_cases e : j = k
    · subst e
      simp [hk]
    · rw [if_neg e, if_neg (fun h => e h.symm)]
  · rw [List.getElem?_eq_none (by rw [wls_len]; omega), List.getElem?_eq_none (by rw [wls_len]; omega)]
    split
    · rw [if_neg (by rw [wls_len]; omega)]
    · rfl
/-- A set of bits at block g. -/
def Mk (w : World) (g m cap : Nat) (W : Nat → Nat) : Prop := w.ownsRow 0 72 1 (.slice (some ⟨g, 0, none⟩) m cap) m (wls m W)
theorem Mk.cell {w : World} {g m cap : Nat} {W : Nat → Nat} (h : Mk w g m cap W) (j : Nat) (hj : j < m) : w.cell? ⟨g, j, none⟩ = some (.int .u64 ((W j : Nat) : Int)) := by
  have h0 : w.ownsRow 0 72 1 (.slice (some ⟨g, 0, none⟩) m cap) m (wls m W) := h
  rw [h0.cellAt j (by omega), wls_get m W j hj]
theorem Mk.frozen {w : World} {g m cap : Nat} {W : Nat → Nat} (h : Mk w g m cap W) (j : Nat) : w.frozen? ⟨g, j, none⟩ = false := by
  have h0 : w.ownsRow 0 72 1 (.slice (some ⟨g, 0, none⟩) m cap) m (wls m W) := h
  exact h0.frozenAt j
theorem Mk.lt {w : World} {g m cap : Nat} {W : Nat → Nat} (h : Mk w g m cap W) : g < w.heap.size := (World.ownsRow.lt h g rfl).2
theorem Mk.store {w : World} {g m cap : Nat} {W : Nat → Nat} (h : Mk w g m cap W) (j v : Nat) : Mk (w.setCell ⟨g, j, none⟩ (.int .u64 ((v : Nat) : Int))) g m cap (updN W j v) := by
  have h0 : w.ownsRow 0 72 1 (.slice (some ⟨g, 0, none⟩) m cap) m (wls m W) := h
  have h1 := (h0.stored j (.int .u64 ((v : Nat) : Int))).1
  rw [wls_set] at h1
  exact h1
theorem Mk.same {w w' : World} {g m cap : Nat} {W : Nat → Nat} (h : Mk w g m cap W) (he : w'.heap[g]? = w.heap[g]?) : Mk w' g m cap W := ownsS_same h (fun k hk => by injection hk with hk; rw [← hk]; exact he)
theorem Tryd.infoU : (Tryd.prog.info? 72).map (fun i => (i.zero, i.size, i.bytes)) = some (some (.int .u64 0), 1, 8) := by kernel_rfl
theorem wrap_pow64 {i : Nat} (h : i < 64) : IntKind.u64.wrap ((2 : Int) ^ i) = ((2 ^ i : Nat) : Int) := by
  have := pow64 h
  rw [IntKind.wrap_u64]
  have e : ((2 : Int) ^ i) = ((2 ^ i : Nat) : Int) := by push_cast; rfl
  rw [e]
  generalize 2 ^ i = p at *
  omega
theorem wls_made (m : Nat) : (madeCells (Value.int .u64 0).cells (m * 1)).toList = wls m (fun _ => 0) := by
  rw [Nat.mul_one, show (Value.int .u64 0).cells = #[Value.int .u64 0] from rfl, toList_madeCells_one]
  apply List.ext_getElem?
  intro k
  by_cases hk : k < m
  · rw [wls_get m _ k hk]
    simp [hk]
  · rw [List.getElem?_eq_none (by simp; omega), List.getElem?_eq_none (by rw [wls_len]; omega)]
set_option maxRecDepth 100000 in
theorem unmarked_any (w : World) (n : Nat) (hn : n ≤ 100000) : Calls Tryd.prog 47 #[.int .i64 (n : Int)] w fun e w' => e = .returned (.slice (some ⟨w.heap.size, 0, none⟩) ((n + 63) / 64) ((n + 63) / 64)) ∧ Mk w' w.heap.size ((n + 63) / 64) ((n + 63) / 64) (fun _ => 0) ∧ Below w.heap.size w w' := by
  obtain ⟨i0, hi, hz0, hz1, hz2⟩ := info_parts Tryd.infoU
  have e1 : IntKind.i64.wrap ((n : Int) + 64) = ((n + 64 : Nat) : Int) := by rw [i64_small (by omega) (by omega)]; omega
  have e2 : IntKind.i64.wrap (((n + 64 : Nat) : Int) - 1) = ((n + 63 : Nat) : Int) := by rw [i64_small (by omega) (by omega)]; omega
  have e3 : (((n + 63 : Nat) : Int)).tdiv 64 = (((n + 63) / 64 : Nat) : Int) := by rw [Int.tdiv_eq_ediv_of_nonneg (by omega)]; omega
  have e4 : IntKind.i64.wrap (((n + 63) / 64 : Nat) : Int) = (((n + 63) / 64 : Nat) : Int) := i64_small (by omega) (by omega)
  have hm : (n + 63) / 64 ≤ 100000 := by omega
  generalize (n + 63) / 64 = m at *
  generalize n + 64 = n4 at *
  generalize n + 63 = n3 at *
  go_enter Tryd.func47, Tryd.ntmps47
  go_wp2_with (at_make; refine wpList_make_full _ rfl _ _ 50 rfl 0 72 i0 (.int .u64 0) 1 Tryd.underlying50 hi hz0 hz1 .i64 .i64 _ _ m rfl rfl (by omega) (by omega) (by rw [hz2]; omega) (by unfold maxLen; omega) (Nat.zero_le _) ?_; intro w1 hown1 hgrow1; have hb1 : Below w.heap.size w w1 := (Below.refl _ w).grown hgrow1 (Nat.le_refl _) (fun k e => by cases e); have HM : Hid (Mk w1 w.heap.size m m (fun _ => 0)) := (by show Mk _ _ _ _ _; unfold Mk; rw [← wls_made]; exact hown1); clear hown1 hgrow1)
  go_ret
  exact ⟨rfl, HM.out, hb1⟩
set_option maxRecDepth 100000 in
theorem mput_any {w : World} {g m cap k : Nat} {W : Nat → Nat} {f : Nat → Bool} (h : Mk w g m cap W) (hf : Wf W f m) (hk : k < m * 64) (hm : m ≤ 100000) : Calls Tryd.prog 49 #[.slice (some ⟨g, 0, none⟩) m cap, .int .i64 (k : Int)] w fun e w' => e = .returned (.tuple #[]) ∧ (∃ W', Mk w' g m cap W' ∧ Wf W' (fun j => f j || decide (j = k)) m) ∧ Ex (fun j => j = g) w w' := by
  have hj : k / 64 < m := by omega
  have hp := hf.put hk
  have hq := h.store (k / 64) (W (k / 64) ||| 2 ^ (k % 64))
  have c0 := h.cell (k / 64) hj
  have z0 := h.frozen (k / 64)
  have e1 : ((k : Int)).tdiv 64 = ((k / 64 : Nat) : Int) := by rw [Int.tdiv_eq_ediv_of_nonneg (by omega)]; omega
  have e2 : IntKind.i64.wrap ((k / 64 : Nat) : Int) = ((k / 64 : Nat) : Int) := i64_small (by omega) (by omega)
  have e3 : ((k : Int)).tmod 64 = ((k % 64 : Nat) : Int) := by rw [Int.tmod_eq_emod_of_nonneg (by omega)]; omega
  have e4 : IntKind.i64.wrap ((k % 64 : Nat) : Int) = ((k % 64 : Nat) : Int) := i64_small (by omega) (by omega)
  have e5 := wrap_pow64 (show k % 64 < 64 by omega)
  have e6 := bits_or_u64_nat (W (k / 64)) (2 ^ (k % 64)) (hf.1 _ hj).1 (pow64 (by omega))
  have t1 : ((k / 64 : Nat) : Int) < (m : Int) := by omega
  have t2 : (0 : Int) ≤ ((k / 64 : Nat) : Int) := by omega
  have t3 : (0 : Int) ≤ ((k % 64 : Nat) : Int) := by omega
  have t4 : ((k % 64 : Nat) : Int) ≤ 64 := by omega
  have HP := Lib.hid hp
  have HQ := Lib.hid hq
  clear h hf hp hq hj hk
  generalize W (k / 64) ||| 2 ^ (k % 64) = x at *
  generalize W (k / 64) = y at *
  generalize k / 64 = q at *
  generalize 2 ^ (k % 64) = pw at *
  generalize k % 64 = r at *
  go_enter Tryd.func49, Tryd.ntmps49
  go_wp2_with fail
  go_region
  go_end0
  exact ⟨rfl, ⟨_, HQ.out.same rfl, HP.out⟩, (Ex.setCell (X := fun j => j = g) (p := ⟨g, q, none⟩) (Ex.refl _ w) (fun _ => rfl) _).drew⟩
set_option maxRecDepth 100000 in
theorem mtake_no {w : World} {g m cap : Nat} (i : Int) (hi : i < 0 ∨ (m : Int) * 64 ≤ i) (hb : i ≤ 9223372036854775807) : Calls Tryd.prog 50 #[.slice (some ⟨g, 0, none⟩) m cap, .int .i64 i] w fun e w' => e = .returned (.bool false) ∧ w' = w := by
  by_cases h0 : i < 0
  · go_enter Tryd.func50, Tryd.ntmps50
    go_wp2
    go_ret
    exact ⟨rfl, rfl⟩
  · have t0 : (i < 0) = False := by simp; omega
    obtain ⟨k, rfl⟩ : ∃ k : Nat, i = (k : Int) := ⟨i.toNat, by omega⟩
    have e1 : ((k : Int)).tdiv 64 = ((k / 64 : Nat) : Int) := by rw [Int.tdiv_eq_ediv_of_nonneg (by omega)]; omega
    have e2 : IntKind.i64.wrap ((k / 64 : Nat) : Int) = ((k / 64 : Nat) : Int) := i64_small (by omega) (by omega)
    have t1 : (m : Int) ≤ ((k / 64 : Nat) : Int) := by omega
    generalize k / 64 = q at *
    go_enter Tryd.func50, Tryd.ntmps50
    go_wp2
    go_ret
    exact ⟨rfl, rfl⟩
set_option maxRecDepth 100000 in
theorem mtake_yes {w : World} {g m cap k : Nat} {W : Nat → Nat} {f : Nat → Bool} (h : Mk w g m cap W) (hf : Wf W f m) (hk : k < m * 64) (hm : m ≤ 100000) : Calls Tryd.prog 50 #[.slice (some ⟨g, 0, none⟩) m cap, .int .i64 (k : Int)] w fun e w' => e = .returned (.bool (f k)) ∧ (∃ W', Mk w' g m cap W' ∧ Wf W' (fun j => f j && decide (j ≠ k)) m) ∧ Ex (fun j => j = g) w w' := by
  have hj : k / 64 < m := by omega
  have hp := hf.take hk
  have hq := h.store (k / 64) (W (k / 64) &&& (18446744073709551615 - 2 ^ (k % 64)))
  have c0 := h.cell (k / 64) hj
  have z0 := h.frozen (k / 64)
  have e1 : ((k : Int)).tdiv 64 = ((k / 64 : Nat) : Int) := by rw [Int.tdiv_eq_ediv_of_nonneg (by omega)]; omega
  have e2 : IntKind.i64.wrap ((k / 64 : Nat) : Int) = ((k / 64 : Nat) : Int) := i64_small (by omega) (by omega)
  have e3 : ((k : Int)).tmod 64 = ((k % 64 : Nat) : Int) := by rw [Int.tmod_eq_emod_of_nonneg (by omega)]; omega
  have e4 : IntKind.i64.wrap ((k % 64 : Nat) : Int) = ((k % 64 : Nat) : Int) := i64_small (by omega) (by omega)
  have e5 := wrap_pow64 (show k % 64 < 64 by omega)
  have e6 := bits_and_u64_nat (W (k / 64)) (2 ^ (k % 64)) (hf.1 _ hj).1 (pow64 (by omega))
  have e7 := u64_andNot_nat (W (k / 64)) (2 ^ (k % 64)) (hf.1 _ hj).1 (pow64 (by omega))
  have e8 := hf.and hk
  have t0 : ((k : Int) < 0) = False := by simp
  have t1 : ((k / 64 : Nat) : Int) < (m : Int) := by omega
  have t5 : ((m : Int) ≤ ((k / 64 : Nat) : Int)) = False := by simp; omega
  have t2 : (0 : Int) ≤ ((k / 64 : Nat) : Int) := by omega
  have t3 : (0 : Int) ≤ ((k % 64 : Nat) : Int) := by omega
  have t4 : ((k % 64 : Nat) : Int) ≤ 64 := by omega
  have HP := Lib.hid hp
  have HQ := Lib.hid hq
  clear h hf hp hq hj hk
  generalize W (k / 64) &&& (18446744073709551615 - 2 ^ (k % 64)) = x at *
  generalize W (k / 64) &&& 2 ^ (k % 64) = x2 at *
  generalize W (k / 64) = y at *
  generalize k / 64 = q at *
  generalize 2 ^ (k % 64) = pw at *
  generalize k % 64 = r at *
  have e9 : Hid ((!((x2 : Int) == 0)) = f k) := by
    show _ = _
    by_cases hx : x2 = 0
    · rw [hx] at e8 ⊢
      have := (Eq.mp e8 rfl)
      rw [this]
      rfl
    · cases hfk : f k
      · exact absurd (Eq.mpr e8 hfk) hx
      · simp; omega
  clear e8
  go_enter Tryd.func50, Tryd.ntmps50
  go_wp2_with fail
  go_region
  go_wp2
  go_ret
  exact ⟨by rw [← e9.out]; rfl, ⟨_, HQ.out.same rfl, HP.out⟩, (Ex.setCell (X := fun j => j = g) (p := ⟨g, q, none⟩) (Ex.refl _ w) (fun _ => rfl) _).drew⟩
end Go.Proofs.YtbnmnmbfdfgohaaDoor
