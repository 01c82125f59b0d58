/-
  Where a function leads to.
-/
import Derived.Test.YtbnmnmbfdfgohaaDoorSwMem
import Derived.Recover
import Derived.Defers
namespace Go.Proofs.YtbnmnmbfdfgohaaDoor
open Go.RowKit Go.WideShapes

/-- A function that leads to the list itself, or one that is none. -/
def ldV (ld : Bool) : Value := if ld then .func (.func 12) #[] #[] else .nilFunc
theorem catch_idle (w : World) : CallsD Tryd.prog 51 #[] .returning w fun e u' w' => e = .returned (.tuple #[]) ∧ u' = .returning ∧ w' = w := by
  refine callsD_of_wpS Tryd.func51 rfl fun c₀ cs hu => ?_
  apply wpS_region
  simp [wpOpsS, go_sem, recoverD, hu, Tryd.ntmps51]
  cases c₀
  simp_all [bodyPostS, results, Tryd.results51]
theorem leads_any (w : World) (a : Option Addr) (n c : Nat) : Calls Tryd.prog 12 #[.slice a n c] w fun e w' => e = .returned (.slice a n c) ∧ w' = w := by
  go_enter Tryd.func12, Tryd.ntmps12
  go_wp2
  go_ret
  exact ⟨rfl, rfl⟩
theorem eqf_no (w : World) : (binOp .eql 31 .nilFunc .nilFunc).run Tryd.prog w = .ok (.bool true) w := by kernel_rfl
theorem eqf_yes (w : World) : (binOp .eql 31 (.func (.func 12) #[] #[]) .nilFunc).run Tryd.prog w = .ok (.bool false) w := by kernel_rfl
set_option maxRecDepth 100000 in
theorem ledTo_no (w : World) (a : Option Addr) (n c : Nat) : Calls Tryd.prog 40 #[.slice a n c, .nilFunc] w fun e w' => e = .returned (.slice none 0 0) ∧ w' = w := by
  have h1 := eqf_no
  go_enter_defers Tryd.func40, Tryd.ntmps40
  go_wp2_with fail
  exact ⟨_, results_tmp rfl _ _ _, rfl, rfl⟩
set_option maxRecDepth 100000 in
theorem ledTo_yes (w : World) (a : Option Addr) (n c : Nat) : Calls Tryd.prog 40 #[.slice a n c, .func (.func 12) #[] #[]] w fun e w' => e = .returned (.slice a n c) ∧ w' = w := by
  have hmf : ∀ (fn : Fn) (first cap : Array Value) (w : World), (Instr.makeFunc fn first cap).run Tryd.prog w = .ok (.func fn first cap) w := fun _ _ _ _ => rfl
  have C := leads_any w a n c
  have h1 := eqf_yes
  go_enter_defers Tryd.func40, Tryd.ntmps40
  go_wp2_with fail
  refine C.mono ?_
  rintro e w1 ⟨rfl, rfl⟩
  clear C
  go_wp2_with fail
  refine leaves_cons (f := 51) (args := #[]) (by simp) (by simp [go_sem]) ?_
  refine (catch_idle _).mono ?_
  rintro e u' w'' ⟨rfl, rfl, rfl⟩
  exact ⟨_, results_tmp rfl _ _ _, rfl, rfl⟩
theorem ledTo_any (w : World) (a : Option Addr) (n c : Nat) (ld : Bool) : Calls Tryd.prog 40 #[.slice a n c, ldV ld] w fun e w' => e = .returned (if ld then .slice a n c else .slice none 0 0) ∧ w' = w := by
  cases ld
  · exact ledTo_no w a n c
  · exact ledTo_yes w a n c
end Go.Proofs.YtbnmnmbfdfgohaaDoor
