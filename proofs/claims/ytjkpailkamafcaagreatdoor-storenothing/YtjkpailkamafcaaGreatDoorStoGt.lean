/-
  What a Store's slots have.
-/
import Derived.Test.YtjkpailkamafcaaGreatDoorStoSt
namespace Go.Proofs.YtjkpailkamafcaaGreatDoor
open Go.RowKit Go.WideShapes

namespace Sto
theorem high_any {w : World} {g : Nat} {ss : List So} {rv : Value} {mo : Option Nat} {n p h : Int} {pm : Option Addr} (H : St w g ss rv mo n p h pm) : Calls Tryz.prog 110 #[.pointer (some ⟨g, 0, none⟩)] w fun e w' => e = .returned (.int .i64 (ss.length : Int)) ∧ w' = w := by
  obtain ⟨a, cap, rfl⟩ := ownsS_shape H.row
  have c0 : w.cell? ⟨g, 0, none⟩ = some (.slice a ss.length cap) := H.b.c 0 (by omega)
  clear H
  go_enter Tryz.func110, Tryz.ntmps110
  go_wp2
  go_ret
  exact ⟨rfl, rfl⟩
set_option maxRecDepth 100000 in
theorem taken_yes {w : World} {g : Nat} {ss : List So} {rv : Value} {mo : Option Nat} {n p h : Int} {pm : Option Addr} (H : St w g ss rv mo n p h pm) (k : Nat) (hk : k < ss.length) : Calls Tryz.prog 75 #[.pointer (some ⟨g, 0, none⟩), .int .i64 (k : Int)] w fun e w' => e = .returned (.bool (nts ss k).taken) ∧ w' = w := by
  have C := high_any H
  obtain ⟨r, cap, rfl, hrl⟩ := ownsS_some H.row (by omega)
  have c0 : w.cell? ⟨g, 0, none⟩ = some (.slice (some ⟨r, 0, none⟩) ss.length cap) := H.b.c 0 (by omega)
  have r0 := H.row.c0 k hk
  have i1 : (k : Int) < (ss.length : Int) := by omega
  have i2 : (0 : Int) ≤ (k : Int) := by omega
  clear H
  go_enter Tryz.func75, Tryz.ntmps75
  go_wp2_with fail
  refine C.mono ?_
  rintro e w' ⟨rfl, rfl⟩
  clear C
  go_wp2
  go_ret
  exact ⟨rfl, rfl⟩
set_option maxRecDepth 100000 in
theorem sget_yes {w : World} {g : Nat} {ss : List So} {rv : Value} {mo : Option Nat} {n p h : Int} {pm : Option Addr} (H : St w g ss rv mo n p h pm) {k : Nat} (hk : k < ss.length) {t : TypeId} {a : Addr} (hv : nts ss k = ⟨true, some (t, a)⟩) : Calls Tryz.prog 38 #[.pointer (some ⟨g, 0, none⟩), .int .i64 (k : Int)] w fun e w' => e = .returned (.tuple #[.iface t (.pointer (some a)), .bool true]) ∧ w' = w := by
  have C := taken_yes H k hk
  obtain ⟨r, cap, rfl, hrl⟩ := ownsS_some H.row (by omega)
  have c0 : w.cell? ⟨g, 0, none⟩ = some (.slice (some ⟨r, 0, none⟩) ss.length cap) := H.b.c 0 (by omega)
  have r1 := H.row.c1 k hk
  rw [hv] at C r1
  have r1' : w.cell? ⟨r, k * 2 + 1, none⟩ = some (.iface t (.pointer (some a))) := r1
  have i1 : (k : Int) < (ss.length : Int) := by omega
  have i2 : (0 : Int) ≤ (k : Int) := by omega
  clear H r1
  go_enter Tryz.func38, Tryz.ntmps38
  go_wp2_with fail
  refine C.mono ?_
  rintro e w' ⟨rfl, rfl⟩
  clear C
  go_wp2
  go_ret2
  exact ⟨rfl, rfl⟩
set_option maxRecDepth 100000 in
theorem get_yes {w : World} {g : Nat} {ss : List So} {rv : Value} {mo : Option Nat} {n p h : Int} {pm : Option Addr} (H : St w g ss rv mo n p h pm) {k : Nat} (hk : k < ss.length) {t : TypeId} {a : Addr} (hv : nts ss k = ⟨true, some (t, a)⟩) : Calls Tryz.prog 21 #[.pointer (some ⟨g, 0, none⟩), .int .i64 (k : Int)] w fun e w' => e = .returned (.iface t (.pointer (some a))) ∧ w' = w := by
  have C := sget_yes H hk hv
  clear H
  go_enter Tryz.func21, Tryz.ntmps21
  go_wp2_with fail
  refine C.mono ?_
  rintro e w' ⟨rfl, rfl⟩
  clear C
  go_wp2
  go_ret
  exact ⟨rfl, rfl⟩
end Sto
end Go.Proofs.YtjkpailkamafcaaGreatDoor
