/-
  The methods of the heap of free slots.
-/
import Derived.Test.YtbnmnmbfdfgohaaDoorSmMem
import Derived.BigRegion
import Derived.RegionTactic
import Derived.Deep.QuietTactic
import Derived.BigQuiet
namespace Go.Proofs.YtbnmnmbfdfgohaaDoor
open Go.RowKit Go.WideShapes

theorem l_len (a : Option Addr) (n c : Nat) (w : World) : Calls Tryd.prog 89 #[.slice a n c] w fun e w' => e = .returned (.int .i64 (n : Int)) ∧ w' = w := by
  go_enter Tryd.func89, Tryd.ntmps89
  go_wp2
  go_ret
  exact ⟨rfl, rfl⟩
theorem l_less {w : World} {h n cap : Nat} {f : Nat → Int} (q : Hq w (.slice (some ⟨h, 0, none⟩) n cap) n f) (i j : Nat) (hi : i < n) (hj : j < n) :
    Calls Tryd.prog 90 #[.slice (some ⟨h, 0, none⟩) n cap, .int .i64 (i : Int), .int .i64 (j : Int)] w fun e w' => e = .returned (.bool (decide (f i < f j))) ∧ ∃ m, w' = w.drewN m := by
  have c1 := q.cell i hi
  have c2 := q.cell j hj
  have i1 : (i : Int) < (n : Int) := by omega
  have i2 : (j : Int) < (n : Int) := by omega
  have i3 : (0 : Int) ≤ (i : Int) := by omega
  have i4 : (0 : Int) ≤ (j : Int) := by omega
  clear q
  go_enter Tryd.func90, Tryd.ntmps90
  go_wp2
  go_quiet (fail)
  go_wp2
  go_ret
  exact ⟨rfl, _, rfl⟩
theorem l_swap {w : World} {h n cap : Nat} {f : Nat → Int} (q : Hq w (.slice (some ⟨h, 0, none⟩) n cap) n f) (i j : Nat) (hi : i < n) (hj : j < n) :
    Calls Tryd.prog 91 #[.slice (some ⟨h, 0, none⟩) n cap, .int .i64 (i : Int), .int .i64 (j : Int)] w fun e w' => e = .returned (.tuple #[]) ∧ Hq w' (.slice (some ⟨h, 0, none⟩) n cap) n (swf f i j) ∧ But h w w' := by
  have c1 := q.cell i hi
  have c2 := q.cell j hj
  have c3 := (q.put i (f j)).cell j hj
  have z1 := q.frozen i
  have z2 := q.frozen j
  have i1 : (i : Int) < (n : Int) := by omega
  have i2 : (j : Int) < (n : Int) := by omega
  have i3 : (0 : Int) ≤ (i : Int) := by omega
  have i4 : (0 : Int) ≤ (j : Int) := by omega
  have HQ := Lib.hid q
  clear q
  go_enter Tryd.func91, Tryd.ntmps91
  go_wp2
  go_region
  go_wp2
  go_end0
  refine ⟨rfl, ?_, ?_⟩
  · refine ((HQ.out.put i (f j)).put j (f i)).ext (fun k hk => ?_)
    unfold updI swf
    by_cases e : k = j
    · subst e
      by_cases e' : k = i
      · subst e'; simp
      · simp [e']
    · by_cases e' : k = i
      · subst e'; simp [e]
      · simp [e, e']
  · exact (((But.refl h w).setCell _ _).setCell _ _).drew
/-- The methods, looked up. -/
theorem m_len {w : World} {a : Addr} {v : Value} (h : w.cell? a = some v) : (method 227 64 (.pointer (some a)) "Len").run Tryd.prog w = .ok (89, v) w := by
  have e : (method 227 64 (.pointer (some a)) "Len").run Tryd.prog w = (Sem.load .plain a (fun v => Sem.pure (89, v))).run Tryd.prog w := by kernel_rfl
  rw [e]
  refine Eq.trans (show _ = ((load a >>= fun v => Pure.pure (_, v)) : Sem (FuncId × Value)).run Tryd.prog w from rfl) ?_
  simp [go_sem, h]
theorem m_less {w : World} {a : Addr} {v : Value} (h : w.cell? a = some v) : (method 227 64 (.pointer (some a)) "Less").run Tryd.prog w = .ok (90, v) w := by
  have e : (method 227 64 (.pointer (some a)) "Less").run Tryd.prog w = (Sem.load .plain a (fun v => Sem.pure (90, v))).run Tryd.prog w := by kernel_rfl
  rw [e]
  refine Eq.trans (show _ = ((load a >>= fun v => Pure.pure (_, v)) : Sem (FuncId × Value)).run Tryd.prog w from rfl) ?_
  simp [go_sem, h]
theorem m_swap {w : World} {a : Addr} {v : Value} (h : w.cell? a = some v) : (method 227 64 (.pointer (some a)) "Swap").run Tryd.prog w = .ok (91, v) w := by
  have e : (method 227 64 (.pointer (some a)) "Swap").run Tryd.prog w = (Sem.load .plain a (fun v => Sem.pure (91, v))).run Tryd.prog w := by kernel_rfl
  rw [e]
  refine Eq.trans (show _ = ((load a >>= fun v => Pure.pure (_, v)) : Sem (FuncId × Value)).run Tryd.prog w from rfl) ?_
  simp [go_sem, h]
theorem m_push (a : Option Addr) (w : World) : (method 227 64 (.pointer a) "Push").run Tryd.prog w = .ok (93, .pointer a) w := by kernel_rfl
theorem m_pop (a : Option Addr) (w : World) : (method 227 64 (.pointer a) "Pop").run Tryd.prog w = .ok (92, .pointer a) w := by kernel_rfl
end Go.Proofs.YtbnmnmbfdfgohaaDoor
