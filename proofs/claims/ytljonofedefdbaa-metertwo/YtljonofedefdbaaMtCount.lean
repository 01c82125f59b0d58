/-
  What the calls that count do: count, Table, Visit, Charge, Turn; of a meter, and of none.
-/
import Derived.Test.YtljonofedefdbaaMtMem
namespace Go.Proofs.Ytljonofedefdbaa
open Go.RowKit
open Go.RwLone

theorem up1 : wrap32 (0 + 1) = 1 := by kernel_rfl
theorem dn1 : wrap32 (1 + -1) = 0 := by kernel_rfl

set_option maxRecDepth 100000 in
set_option maxHeartbeats 1600000 in
theorem count_nil (k n : Int) (w : World) :
    Calls Try.prog 20 #[.pointer none, .int .i64 k, .int .i64 n] w fun e w' => e = .returned (.tuple #[]) ∧ w' = w := by
  go_enter_defers Try.func20, Try.ntmps20
  go_wp2_with fail
  exact ⟨_, results_none rfl _ _ _, rfl, rfl⟩
set_option maxRecDepth 100000 in
set_option maxHeartbeats 1600000 in
theorem count_in (g : Nat) (j : Nat) (hj : j < 4) (x n : Int) (h1 : 1 ≤ n) (h2 : n ≤ 2147483647) (w : World) (c0 : w.cell? ⟨g, 0, none⟩ = some (.int .i32 0)) (c2 : w.cell? ⟨g, 2, none⟩ = some (.int .u32 0))
    (c3 : w.cell? ⟨g, 3, none⟩ = some (.int .u32 0)) (c4 : w.cell? ⟨g, 4, none⟩ = some (.int .i32 0)) (cj : w.cell? ⟨g, 6 + j, none⟩ = some (.int .i64 x)) (fr : ∀ j, w.frozen? ⟨g, j, none⟩ = false) :
    Calls Try.prog 20 #[.pointer (some ⟨g, 0, none⟩), .int .i64 (j : Int), .int .i64 n] w fun e w' => e = .returned (.tuple #[]) ∧
      w' = ((w.setCell ⟨g, 4, none⟩ (.int .i32 1)).setCell ⟨g, 6 + j, none⟩ (.int .i64 (wrap64 (x + n)))).setCell ⟨g, 4, none⟩ (.int .i32 0) := by
  have t1 : ¬ n < 1 := by omega
  have t2 : ¬ 2147483647 < n := by omega
  have t3 : (j : Int) < 4 := by omega
  have t4 : (0 : Int) ≤ j := by omega
  go_enter_defers Try.func20, Try.ntmps20
  go_wp2_with (go_at_call 35; refine (rlock_open rwRLib g 0 0 _ _ _ c0 c3 c4 (fr 4) (by rw [up1]; decide)).mono ?_; rintro e w' ⟨rfl, rfl⟩; rw [up1])
  have e4 : (⟨g, 6 + j, none⟩ : Addr) ≠ ⟨g, 4, none⟩ := by intro e; injection e with _ e; omega
  refine (i64add_any ⟨g, 6 + j, none⟩ x n _ ((World.cell?_setCell_other _ _ _ _ (fun e => e4 e.symm)).trans cj) (by rw [World.frozen?_setCell]; exact fr _)).mono ?_
  rintro e w' ⟨rfl, rfl⟩
  go_wp2_with fail
  refine leaves_cons (f := 36) (args := #[.pointer (some ⟨g, 0, none⟩)]) (by simp) (by simp [go_sem]) ?_
  have o : ∀ q, q ≠ 4 → q < 6 → ((w.setCell ⟨g, 4, none⟩ (.int .i32 1)).setCell ⟨g, 6 + j, none⟩ (.int .i64 (wrap64 (x + n)))).cell? ⟨g, q, none⟩ = w.cell? ⟨g, q, none⟩ := fun q h4 h6 => by
    rw [World.cell?_setCell_other _ _ _ _ (by intro e; injection e with _ e; omega), World.cell?_setCell_other _ _ _ _ (by intro e; injection e with _ e; omega)]
  refine (runlock_deferred rwRLib g 0 1 (.int .i32 0) (.int .u32 0) .returning _ ?_ ?_ ?_ ?_ ?_).mono ?_
  · exact (o 0 (by omega) (by omega)).trans c0
  · exact (o 2 (by omega) (by omega)).trans c2
  · exact (World.cell?_setCell_other _ _ _ _ e4).trans (World.cell?_setCell_same w _ _ c4)
  · rw [World.frozen?_setCell, World.frozen?_setCell]; exact fr _
  · rw [dn1]; decide
  rintro e u' w'' ⟨rfl, rfl, rfl⟩
  rw [dn1]
  exact ⟨_, results_none rfl _ _ _, rfl, rfl⟩
set_option maxRecDepth 100000 in
set_option maxHeartbeats 1600000 in
theorem count_out (g : Nat) (j n : Int) (h : ¬ (1 ≤ n ∧ n ≤ 2147483647)) (w : World) :
    Calls Try.prog 20 #[.pointer (some ⟨g, 0, none⟩), .int .i64 j, .int .i64 n] w fun e w' => e = .returned (.tuple #[]) ∧ w' = w := by
  by_cases t1 : n < 1
  · clear h
    go_enter_defers Try.func20, Try.ntmps20
    go_wp2_with fail
    exact ⟨_, results_none rfl _ _ _, rfl, rfl⟩
  · have t2 : 2147483647 < n := by omega
    clear h
    go_enter_defers Try.func20, Try.ntmps20
    go_wp2_with fail
    exact ⟨_, results_none rfl _ _ _, rfl, rfl⟩
/-- What a counter is behind n more. -/
def more (x n : Int) : Int := if 1 ≤ n ∧ n ≤ 2147483647 then wrap64 (x + n) else x
theorem Mt.put {w : World} {g : Nat} {t c v s : Int} (h : Mt w g t c v s) (j : Nat) (y : Int) (t' c' v' s' : Int) (e0 : t' = if j = 0 then y else t) (e1 : c' = if j = 1 then y else c) (e2 : v' = if j = 2 then y else v) (e3 : s' = if j = 3 then y else s) :
    Mt (((w.setCell ⟨g, 4, none⟩ (.int .i32 1)).setCell ⟨g, 6 + j, none⟩ (.int .i64 y)).setCell ⟨g, 4, none⟩ (.int .i32 0)) g t' c' v' s' := by
  have o : ∀ q, q ≠ 4 → q ≠ 6 + j → (((w.setCell ⟨g, 4, none⟩ (.int .i32 1)).setCell ⟨g, 6 + j, none⟩ (.int .i64 y)).setCell ⟨g, 4, none⟩ (.int .i32 0)).cell? ⟨g, q, none⟩ = w.cell? ⟨g, q, none⟩ := fun q h4 h6 => by
    rw [World.cell?_setCell_other _ _ _ _ (by intro e; injection e with _ e; omega), World.cell?_setCell_other _ _ _ _ (by intro e; injection e with _ e; omega), World.cell?_setCell_other _ _ _ _ (by intro e; injection e with _ e; omega)]
  have a : ∀ (q : Nat) (x : Int), q < 4 → w.cell? ⟨g, 6 + q, none⟩ = some (.int .i64 x) →
      (((w.setCell ⟨g, 4, none⟩ (.int .i32 1)).setCell ⟨g, 6 + j, none⟩ (.int .i64 y)).setCell ⟨g, 4, none⟩ (.int .i32 0)).cell? ⟨g, 6 + q, none⟩ = some (.int .i64 (if j = q then y else x)) := fun q x hq hx => by
    by_cases hjq : j = q
    · subst hjq
      rw [World.cell?_setCell_other _ _ _ _ (by intro e; injection e with _ e; omega), if_pos rfl]
      exact World.cell?_setCell_same _ _ _ ((World.cell?_setCell_other _ _ _ _ (by intro e; injection e with _ e; omega)).trans hx)
    · rw [o _ (by omega) (by omega), if_neg hjq]; exact hx
  refine ⟨(o 0 (by omega) (by omega)).trans h.c0, (o 2 (by omega) (by omega)).trans h.c2, (o 3 (by omega) (by omega)).trans h.c3, ?_, ?_, ?_, ?_, ?_, fun k => ?_⟩
  · exact World.cell?_setCell_same _ _ _ ((World.cell?_setCell_other _ _ _ _ (by intro e; injection e with _ e; omega)).trans (World.cell?_setCell_same _ _ _ h.c4))
  · rw [e0]; exact a 0 t (by omega) h.c6
  · rw [e1]; exact a 1 c (by omega) h.c7
  · rw [e2]; exact a 2 v (by omega) h.c8
  · rw [e3]; exact a 3 s (by omega) h.c9
  · rw [World.frozen?_setCell, World.frozen?_setCell, World.frozen?_setCell]; exact h.fr k
theorem But.put (w : World) (g j : Nat) (y : Int) : But g w (((w.setCell ⟨g, 4, none⟩ (.int .i32 1)).setCell ⟨g, 6 + j, none⟩ (.int .i64 y)).setCell ⟨g, 4, none⟩ (.int .i32 0)) :=
  (((But.refl g w).setCell _ _).setCell _ _).setCell _ _
/-- count, of a meter: whatever n. -/
theorem count_any (g j : Nat) (hj : j < 4) (n : Int) (t c v s : Int) (w : World) (h : Mt w g t c v s) :
    Calls Try.prog 20 #[.pointer (some ⟨g, 0, none⟩), .int .i64 (j : Int), .int .i64 n] w fun e w' => e = .returned (.tuple #[]) ∧ But g w w' ∧
      Mt w' g (if j = 0 then more t n else t) (if j = 1 then more c n else c) (if j = 2 then more v n else v) (if j = 3 then more s n else s) := by
  by_cases hn : 1 ≤ n ∧ n ≤ 2147483647
  · have hm : ∀ x, more x n = wrap64 (x + n) := fun x => if_pos hn
    simp only [hm]
    obtain rfl | rfl | rfl | rfl : j = 0 ∨ j = 1 ∨ j = 2 ∨ j = 3 := by omega
    · refine (count_in g 0 hj t n hn.1 hn.2 w h.c0 h.c2 h.c3 h.c4 h.c6 h.fr).mono ?_
      rintro e w' ⟨rfl, rfl⟩
      exact ⟨rfl, But.put _ _ _ _, h.put 0 _ _ _ _ _ rfl rfl rfl rfl⟩
    · refine (count_in g 1 hj c n hn.1 hn.2 w h.c0 h.c2 h.c3 h.c4 h.c7 h.fr).mono ?_
      rintro e w' ⟨rfl, rfl⟩
      exact ⟨rfl, But.put _ _ _ _, h.put 1 _ _ _ _ _ rfl rfl rfl rfl⟩
    · refine (count_in g 2 hj v n hn.1 hn.2 w h.c0 h.c2 h.c3 h.c4 h.c8 h.fr).mono ?_
      rintro e w' ⟨rfl, rfl⟩
      exact ⟨rfl, But.put _ _ _ _, h.put 2 _ _ _ _ _ rfl rfl rfl rfl⟩
    · refine (count_in g 3 hj s n hn.1 hn.2 w h.c0 h.c2 h.c3 h.c4 h.c9 h.fr).mono ?_
      rintro e w' ⟨rfl, rfl⟩
      exact ⟨rfl, But.put _ _ _ _, h.put 3 _ _ _ _ _ rfl rfl rfl rfl⟩
  · have hm : ∀ x, more x n = x := fun x => if_neg hn
    simp only [hm, ite_self]
    refine (count_out g _ n hn w).mono ?_
    rintro e w' ⟨rfl, rfl⟩
    exact ⟨rfl, But.refl _ _, h⟩
end Go.Proofs.Ytljonofedefdbaa
