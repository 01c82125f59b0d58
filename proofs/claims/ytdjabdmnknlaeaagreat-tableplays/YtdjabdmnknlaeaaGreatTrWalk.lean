/-
  A place along a trail, which can be left and gone on from: Begin, Cell, Step.
-/
import Derived.Test.YtdjabdmnknlaeaaGreatTrCode
import Derived.Deep.RegionHeld3
import Derived.BigQuiet
import Derived.Deep.CutRange
namespace Go.Proofs.YtdjabdmnknlaeaaGreat.Tr
open Go.RowKit Go.WideShapes

theorem u64_small {x : Int} (h0 : 0 ≤ x) (h1 : x < 18446744073709551616) : IntKind.u64.wrap x = x := by rw [IntKind.wrap_u64]; omega
/-- Begin: the first cell, the hash, the mask. -/
theorem begin_any {L S : Nat} (hS : Sz L S) (h : Int) (w : World) : Calls Tryz.prog 59 #[.int .i64 h, .int .i64 (L : Int)] w fun e w' => e = .returned (.agg #[.int .u64 ((uw h % S : Nat) : Int), .int .u64 ((uw h : Nat) : Int), .int .u64 ((S : Int) - 1)]) ∧ Below w.heap.size w w' := by
  have h1 := uw_int h
  have h2 := uw_lt h
  have hp := hS.pos
  have hm := hS.most
  have hle := hS.le
  have hu := hS.u64
  have hw1 : IntKind.u64.wrap ((S : Int) - 1) = (S : Int) - 1 := u64_small (by omega) (by omega)
  have h3 := hS.mask ((uw h : Nat) : Int) (by omega) (by omega)
  rw [← Int.natCast_emod] at h3
  have HL : Hid (∀ w, Calls Tryz.prog 70 #[.int .i64 (L : Int)] w fun e w' => e = .returned (.bool true) ∧ w' = w) := fun w => isLog_yes L hS.le w
  generalize uw h % S = r at h3 ⊢
  generalize uw h = u at h1 h2 h3 ⊢
  go_enter Tryz.func59, Tryz.ntmps59
  go_wp2_with fail
  refine (HL.out _).mono ?_
  rintro e w1 ⟨rfl, rfl⟩
  go_wp2
  refine bodyPost_ret (v := .agg #[.int .u64 (r : Int), .int .u64 (u : Int), .int .u64 ((S : Int) - 1)]) (by simp [results, Tryz.results59, go_sem]) rfl ?_
  exact ⟨rfl, (Below.refl _ w).alloc (Nat.le_refl _) _⟩
theorem cell_any (b o c : Nat) (hc : c < 9223372036854775808) (w : World) (h0 : w.cell? ⟨b, o, none⟩ = some (.int .u64 (c : Int))) : Calls Tryz.prog 71 #[.pointer (some ⟨b, o, none⟩)] w fun e w' => e = .returned (.int .i64 (c : Int)) ∧ w' = w := by
  have h5 : IntKind.i64.wrap (c : Int) = (c : Int) := i64_small (by omega) (by omega)
  go_enter Tryz.func71, Tryz.ntmps71
  go_wp2
  go_ret
  exact ⟨rfl, rfl⟩
/-- The world behind Step. -/
def stepW (w : World) (b o c p : Nat) : World := ((w.setCell ⟨b, o + 1, none⟩ (.int .u64 (p : Int))).setCell ⟨b, o, none⟩ (.int .u64 (c : Int))).drew
theorem step_any {L S : Nat} (hS : Sz L S) (b o c p : Nat) (hc : c < S) (hp : p < 18446744073709551616) (w : World) (h0 : w.cell? ⟨b, o, none⟩ = some (.int .u64 (c : Int))) (h1 : w.cell? ⟨b, o + 1, none⟩ = some (.int .u64 (p : Int))) (h2 : w.cell? ⟨b, o + 2, none⟩ = some (.int .u64 ((S : Int) - 1)))
    (z0 : w.frozen? ⟨b, o, none⟩ = false) (z1 : w.frozen? ⟨b, o + 1, none⟩ = false) :
    Calls Tryz.prog 72 #[.pointer (some ⟨b, o, none⟩)] w fun e w' => e = .returned (.tuple #[]) ∧ w' = stepW w b o ((c * 5 + p / 32 + 1) % S) (p / 32) := by
  have hm := hS.most
  have e2 : IntKind.u64.wrap (5 * (c : Int)) = ((c * 5 : Nat) : Int) := by rw [IntKind.wrap_u64]; omega
  have e3 : (p : Int) / 32 = ((p / 32 : Nat) : Int) := by omega
  have e4 : IntKind.u64.wrap (((c * 5 : Nat) : Int) + ((p / 32 : Nat) : Int)) = ((c * 5 + p / 32 : Nat) : Int) := by rw [IntKind.wrap_u64]; omega
  have e5 : IntKind.u64.wrap (((c * 5 + p / 32 : Nat) : Int) + 1) = ((c * 5 + p / 32 + 1 : Nat) : Int) := by rw [IntKind.wrap_u64]; omega
  have e6 : bits BinOp.and IntKind.u64 ((c * 5 + p / 32 + 1 : Nat) : Int) ((S : Int) - 1) = (((c * 5 + p / 32 + 1) % S : Nat) : Int) := by
    rw [hS.mask _ (by omega) (by omega), Int.natCast_emod]
  generalize (c * 5 + p / 32 + 1) % S = r at e6 ⊢
  generalize c * 5 + p / 32 + 1 = x3 at e5 e6
  generalize c * 5 + p / 32 = x2 at e4 e5
  generalize c * 5 = x1 at e2 e4
  generalize p / 32 = q at e3 e4 ⊢
  unfold stepW
  go_enter Tryz.func72, Tryz.ntmps72
  go_upto_region 1 with fail
  have k0 : (w.setCell ⟨b, o + 1, none⟩ (.int .u64 (q : Int))).cell? ⟨b, o, none⟩ = some (.int .u64 (c : Int)) := (World.cell?_setCell_other _ _ _ _ (by intro he; injection he with h1 h2; omega)).trans h0
  have k1 : (w.setCell ⟨b, o + 1, none⟩ (.int .u64 (q : Int))).cell? ⟨b, o + 1, none⟩ = some (.int .u64 (q : Int)) := World.cell?_setCell_same' _ _ _ (by rw [h1]; rfl)
  have k2 : (w.setCell ⟨b, o + 1, none⟩ (.int .u64 (q : Int))).cell? ⟨b, o + 2, none⟩ = some (.int .u64 ((S : Int) - 1)) := (World.cell?_setCell_other _ _ _ _ (by intro he; injection he with h1 h2; omega)).trans h2
  have k3 : (w.setCell ⟨b, o + 1, none⟩ (.int .u64 (q : Int))).frozen? ⟨b, o, none⟩ = false := by rw [World.frozen?_setCell]; exact z0
  generalize hw1 : w.setCell ⟨b, o + 1, none⟩ (.int .u64 (q : Int)) = w1 at *
  have HW : Hid (w.setCell ⟨b, o + 1, none⟩ (.int .u64 (q : Int)) = w1) := hw1
  clear hw1
  go_region
  all_goals
    go_wp2
    go_end0
    exact ⟨rfl, by rw [HW.out]⟩
end Go.Proofs.YtdjabdmnknlaeaaGreat.Tr
