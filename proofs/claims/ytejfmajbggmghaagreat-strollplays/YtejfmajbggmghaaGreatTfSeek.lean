/-
  The reference's Seek and Next.
-/
import Derived.Test.YtejfmajbggmghaaGreatTfSight
namespace Go.Proofs.YtejfmajbggmghaaGreat
open Go.RowKit Go.WideShapes

/-- A Seeker's cells: its table, its hash, the turn, the next cell, what is left of the hash, whether it has ended, how many it visited, what it told last. -/
def sF (g : Nat) (u : Int) (tn : Nat) (cell p : Nat) (over : Bool) (vis : Nat) (last : Int) : Nat → Value
  | 0 => .pointer (some ⟨g, 0, none⟩)
  | 1 => .int .i64 u
  | 2 => .int .i64 (tn : Int)
  | 3 => .int .i64 (cell : Int)
  | 4 => .int .u64 (p : Int)
  | 5 => .bool over
  | 6 => .int .i64 (vis : Int)
  | _ => .int .i64 last
set_option maxRecDepth 100000 in
theorem rseek_any {w : World} {g : Nat} {ev : Value} {q : Nat} {t : Tb} {mv : Value} (hR : Rt w g ev q t mv) (u : Int) :
    Calls Tryz.prog 63 #[.pointer (some ⟨g, 0, none⟩), .int .i64 u] w fun e w' => ∃ s, e = .returned (.pointer (some ⟨s, 0, none⟩)) ∧ w.heap.size ≤ s ∧ Blk w' s 8 (sF g u t.turn (trl (uw u) t.L 0) (uw u) false 0 (-1)) ∧ Below w.heap.size w w' := by
  have f1 : w.cell? ⟨g, 1, none⟩ = some (.int .i64 (t.L : Int)) := hR.hd.c 1 (by omega)
  have f6 : w.cell? ⟨g, 6, none⟩ = some (.int .i64 (t.turn : Int)) := hR.hd.c 6 (by omega)
  have C1 := Lib.hid (fun w => Tr.rfirst_any u (t.L : Int) w)
  rw [show Tr.firstZ u (t.L : Int) = ((trl (uw u) t.L 0 : Nat) : Int) by rw [Tr.firstZ_yes u hR.trSz, trl]] at C1
  have h1 := uw_int u
  have lg := hR.hd.lt (by omega)
  have HKA : Hid (∀ o, (w.alloc o).cell? ⟨g, 1, none⟩ = some (.int .i64 (t.L : Int)) ∧ (w.alloc o).cell? ⟨g, 6, none⟩ = some (.int .i64 (t.turn : Int))) := fun o => by
    have e : (w.alloc o).heap[g]? = w.heap[g]? := Below.heap_alloc _ _ _ lg
    exact ⟨(World.cell?_of_block (a := ⟨g, 1, none⟩) e).trans f1, (World.cell?_of_block (a := ⟨g, 6, none⟩) e).trans f6⟩
  clear hR
  generalize trl (uw u) t.L 0 = x at *
  generalize uw u = U at *
  have hb : Below w.heap.size w (w.alloc (.cells #[.pointer (some ⟨g, 0, none⟩), .int .i64 u, .int .i64 (t.turn : Int), .int .i64 (x : Int), .int .u64 (U : Int), .bool false, .int .i64 0, .int .i64 (-1)] 136)).drew := ((Below.refl _ w).alloc (Nat.le_refl _) _).drew
  have hB : Blk (w.alloc (.cells #[.pointer (some ⟨g, 0, none⟩), .int .i64 u, .int .i64 (t.turn : Int), .int .i64 (x : Int), .int .u64 (U : Int), .bool false, .int .i64 0, .int .i64 (-1)] 136)).drew w.heap.size 8 (sF g u t.turn x U false 0 (-1)) := ((Blk.new w #[.pointer (some ⟨g, 0, none⟩), .int .i64 u, .int .i64 (t.turn : Int), .int .i64 (x : Int), .int .u64 (U : Int), .bool false, .int .i64 0, .int .i64 (-1)] 136).same (w' := (w.alloc (.cells #[.pointer (some ⟨g, 0, none⟩), .int .i64 u, .int .i64 (t.turn : Int), .int .i64 (x : Int), .int .u64 (U : Int), .bool false, .int .i64 0, .int .i64 (-1)] 136)).drew) rfl).congr (fun j hj => by
    have : j = 0 ∨ j = 1 ∨ j = 2 ∨ j = 3 ∨ j = 4 ∨ j = 5 ∨ j = 6 ∨ j = 7 := by have : j < 8 := hj; omega
    rcases this with rfl | rfl | rfl | rfl | rfl | rfl | rfl | rfl <;> rfl)
  have HB := Lib.hid hB
  have HBW := Lib.hid hb
  clear hb hB
  go_enter Tryz.func63, Tryz.ntmps63
  go_upto_region 1 with fail
  go_region_held3 (fun V => V.cell? ⟨g, 1, none⟩ = some (.int .i64 (t.L : Int)) ∧ V.cell? ⟨g, 6, none⟩ = some (.int .i64 (t.turn : Int)))
    (first | exact ⟨f1, f6⟩ | exact HKA.out _ | fail)
    (first | (go_at_call 81; refine (C1.out _).mono ?_; rintro e w2 ⟨rfl, rfl⟩) | fail)
  all_goals
    go_wp2
    go_ret
    exact ⟨_, rfl, Nat.le_refl _, HB.out, HBW.out⟩
end Go.Proofs.YtejfmajbggmghaaGreat
