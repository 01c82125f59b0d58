/-
  Seek, and a Seeker's visit.
-/
import Derived.Test.YtooneobnfepncaaGreatDtTell
namespace Go.Proofs.YtooneobnfepncaaGreat
open Go.RowKit Go.WideShapes

/-- What a Seeker asks of the meter. -/
def MvOk (mv : Value) (M : Int → Int → World → Prop) : Prop := ∀ a b w, 0 ≤ b → b ≤ 1000000000000 → M a b w → Calls Tryz.prog 156 #[mv, .int .i64 1] w fun e w' => e = .returned (.tuple #[]) ∧ M a (b + 1) w' ∧ Ex (mB mv) w w'
/-- A Seeker's cells: its table, the changes that it knows, its hash, its walk, what it told last, what it visited. -/
def skF (tp : Value) (tu : Nat) (u : Int) (c p S : Nat) (told : Int) (v : Nat) : Nat → Value
  | 0 => tp
  | 1 => .int .i64 (tu : Int)
  | 2 => .int .i64 u
  | 3 => .int .u64 (c : Int)
  | 4 => .int .u64 (p : Int)
  | 5 => .int .u64 ((S : Int) - 1)
  | 6 => .int .i64 told
  | _ => .int .i64 (v : Int)
/-- A Seeker at place i of the trail of u. -/
def Sk (w : World) (s : Nat) (tp : Value) (tu : Nat) (u : Int) (L i : Nat) (told : Int) (v : Nat) : Prop := Blk w s 8 (skF tp tu u (trl (uw u) L i) (uw u / 32 ^ i) (2 ^ L) told v)
set_option maxRecDepth 100000 in
set_option maxHeartbeats 4000000 in
theorem seek_any {w : World} {g gi r h : Nat} {ev : Value} {t : Tb} {mv : Value} (hD : Dt w g gi r h ev t mv) (u : Int) :
    Calls Tryz.prog 130 #[.pointer (some ⟨g, 0, none⟩), .int .i64 u] w fun e w' => ∃ s, e = .returned (.pointer (some ⟨s, 0, none⟩)) ∧ w.heap.size ≤ s ∧ Sk w' s (.pointer (some ⟨g, 0, none⟩)) t.turn u t.L 0 (-1) 0 ∧ Below w.heap.size w w' := by
  have k1 : w.cell? ⟨g, 1, none⟩ = some (.pointer (some ⟨gi, 0, none⟩)) := hD.hd.c 1 (by omega)
  have k6 : w.cell? ⟨g, 6, none⟩ = some (.int .i64 (t.turn : Int)) := hD.hd.c 6 (by omega)
  have hS : Tr.Sz t.L (2 ^ t.L) := ⟨rfl, hD.cl.sz.le⟩
  have CR := ready_yes k1
  have CL : Calls Tryz.prog 97 #[.pointer (some ⟨gi, 0, none⟩)] w.drew fun e w' => e = .returned (.int .i64 (t.L : Int)) ∧ w' = w.drew := log_any (hD.cl.same rfl rfl rfl)
  have CB := Tr.begin_any hS u w.drew
  have hlg := lt_of_cell k1
  have hB0 : Below w.heap.size w w.drew := (Below.refl _ w).drew
  have HT0 : Hid (uw u % 2 ^ t.L = trl (uw u) t.L 0) := by show _ = _; rw [trl]
  rw [HT0.out] at CB
  have d1 : w.drew.cell? ⟨g, 1, none⟩ = some (.pointer (some ⟨gi, 0, none⟩)) := k1
  have d6 : w.drew.cell? ⟨g, 6, none⟩ = some (.int .i64 (t.turn : Int)) := k6
  clear hD hS
  generalize hSS : 2 ^ t.L = S at *
  have HSS := Lib.hid hSS
  clear hSS
  generalize hx0 : trl (uw u) t.L 0 = x0 at *
  generalize hU : uw u = U at *
  have HX0 := Lib.hid hx0
  have HU := Lib.hid hU
  clear hx0 hU HT0
  go_enter Tryz.func130, Tryz.ntmps130
  go_wp2_with fail
  refine CR.mono ?_
  rintro e w1 ⟨rfl, rfl⟩
  clear CR
  go_wp2_with fail
  go_region_held3 (fun V => V.cell? ⟨g, 1, none⟩ = some (.pointer (some ⟨gi, 0, none⟩)) ∧ V.cell? ⟨g, 6, none⟩ = some (.int .i64 (t.turn : Int)))
    (first | with_reducible exact ⟨d1, d6⟩ | with_reducible exact ⟨k1, k6⟩ | with_reducible exact ⟨q1, q6⟩ | with_reducible exact ⟨r1, r6⟩ | fail)
    (first | (go_at_call 97; refine CL.mono ?_; rintro e v2 ⟨rfl, rfl⟩) | (go_at_call 153; refine CB.mono ?_; rintro e w2 ⟨rfl, hb2⟩; have hB2 := hB0.trans hb2; have q1 := (hB2.cell (p := ⟨g, 1, none⟩) hlg).trans k1; have q6 := (hB2.cell (p := ⟨g, 6, none⟩) hlg).trans k6; have r1 := (cell_alloc_old w2 (.cells #[.pointer (some ⟨g, 0, none⟩), .int .i64 (t.turn : Int), .int .i64 u, .int .u64 (x0 : Int), .int .u64 (U : Int), .int .u64 ((S : Int) - 1), .int .i64 (-1), .int .i64 0] 172) g 1 (Nat.lt_of_lt_of_le hlg hB2.size)).trans q1; have r6 := (cell_alloc_old w2 (.cells #[.pointer (some ⟨g, 0, none⟩), .int .i64 (t.turn : Int), .int .i64 u, .int .u64 (x0 : Int), .int .u64 (U : Int), .int .u64 ((S : Int) - 1), .int .i64 (-1), .int .i64 0] 172) g 6 (Nat.lt_of_lt_of_le hlg hB2.size)).trans q6) | fail)
  have HB : Hid (Blk (w2.alloc (.cells #[.pointer (some ⟨g, 0, none⟩), .int .i64 (t.turn : Int), .int .i64 u, .int .u64 (x0 : Int), .int .u64 (U : Int), .int .u64 ((S : Int) - 1), .int .i64 (-1), .int .i64 0] 172)) w2.heap.size 8 (skF (.pointer (some ⟨g, 0, none⟩)) t.turn u x0 U S (-1) 0)) := (Blk.new w2 _ _).congr fun j hj => by
    have : j = 0 ∨ j = 1 ∨ j = 2 ∨ j = 3 ∨ j = 4 ∨ j = 5 ∨ j = 6 ∨ j = 7 := by simp at hj; omega
    rcases this with rfl | rfl | rfl | rfl | rfl | rfl | rfl | rfl <;> rfl
  have HBW : Hid (∀ o, Below w1.heap.size w1 (w2.alloc o)) := fun o => hB2.alloc hB2.size o
  have hs2 := hB2.size
  clear q1 q6 r1 r6 d1 d6 k1 k6 hB2 hb2
  go_wp2
  go_ret
  refine ⟨w2.heap.size, rfl, hs2, ?_, HBW.out _⟩
  unfold Sk
  rw [HSS.out, HU.out, HX0.out]
  simpa using HB.out
end Go.Proofs.YtooneobnfepncaaGreat
