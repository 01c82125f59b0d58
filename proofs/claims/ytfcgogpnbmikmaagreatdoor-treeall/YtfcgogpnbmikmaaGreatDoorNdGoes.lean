/-
  TreeAll: the law's closure.
-/
import Derived.Test.YtfcgogpnbmikmaaGreatDoorNdFt
namespace Go.Proofs.YtfcgogpnbmikmaaGreatDoor
open Go.RowKit Go.WideShapes
namespace Nd
open Lx

/-- The variables of the law's goes: l, at, stop, n, ok, over lie in six blocks from D on. -/
structure Gb (w : World) (D : Nat) (lv av : Value) (stop : Int) (m : Nat) (ov : Bool) : Prop where
  l : w.cell? ⟨D, 0, none⟩ = some lv
  a : w.cell? ⟨D + 1, 0, none⟩ = some av
  s : w.cell? ⟨D + 2, 0, none⟩ = some (.int .i64 stop)
  n : w.cell? ⟨D + 3, 0, none⟩ = some (.int .i64 (m : Int))
  k : w.cell? ⟨D + 4, 0, none⟩ = some (.bool true)
  o : w.cell? ⟨D + 5, 0, none⟩ = some (.bool ov)
  zn : w.frozen? ⟨D + 3, 0, none⟩ = false
  zk : w.frozen? ⟨D + 4, 0, none⟩ = false
  zo : w.frozen? ⟨D + 5, 0, none⟩ = false
theorem Gb.keep {w w' : World} {D : Nat} {lv av : Value} {stop : Int} {m : Nat} {ov : Bool} (h : Gb w D lv av stop m ov) (hb : ∀ b, D ≤ b → b < D + 6 → w'.heap[b]? = w.heap[b]?) : Gb w' D lv av stop m ov := by
  have k : ∀ b, D ≤ b → b < D + 6 → w'.cell? ⟨b, 0, none⟩ = w.cell? ⟨b, 0, none⟩ := fun b h1 h2 => World.cell?_of_block (a := ⟨b, 0, none⟩) (hb b h1 h2)
  have z : ∀ b, D ≤ b → b < D + 6 → w'.frozen? ⟨b, 0, none⟩ = w.frozen? ⟨b, 0, none⟩ := fun b h1 h2 => World.frozen?_of_block (a := ⟨b, 0, none⟩) (hb b h1 h2)
  exact ⟨(k _ (by omega) (by omega)).trans h.l, (k _ (by omega) (by omega)).trans h.a, (k _ (by omega) (by omega)).trans h.s, (k _ (by omega) (by omega)).trans h.n, (k _ (by omega) (by omega)).trans h.k, (k _ (by omega) (by omega)).trans h.o, (z _ (by omega) (by omega)).trans h.zn, (z _ (by omega) (by omega)).trans h.zk, (z _ (by omega) (by omega)).trans h.zo⟩
abbrev Sg (w0 : World) (D D1 D3 D4 D5 lb ab m B : Nat) (lv av : Value) (di : Int) (x y : Nv) (V : World) : Prop :=
  (V.cell? ⟨D, 0, none⟩ = some lv ∧ V.cell? ⟨D1, 0, none⟩ = some av ∧ V.cell? ⟨D3, 0, none⟩ = some (.int .i64 (m : Int)) ∧ V.cell? ⟨D4, 0, none⟩ = some (.bool true) ∧ V.cell? ⟨D5, 0, none⟩ = some (.bool false)) ∧ V.cell? ⟨ab, m, none⟩ = some (.int .i64 di) ∧
  (V.cell? ⟨lb, m * 6, none⟩ = some (.int .i64 x.k) ∧ V.cell? ⟨lb, m * 6 + 1, none⟩ = some (.int .i64 x.a) ∧ V.cell? ⟨lb, m * 6 + 2, none⟩ = some (.string x.s) ∧ V.cell? ⟨lb, m * 6 + 3, none⟩ = some (.bool x.neg) ∧ V.cell? ⟨lb, m * 6 + 4, none⟩ = some x.mv ∧ V.cell? ⟨lb, m * 6 + 5, none⟩ = some x.kv) ∧
  (V.cell? ⟨B, 0, none⟩ = some (.int .i64 y.k) ∧ V.cell? ⟨B, 1, none⟩ = some (.int .i64 y.a) ∧ V.cell? ⟨B, 2, none⟩ = some (.string y.s) ∧ V.cell? ⟨B, 3, none⟩ = some (.bool y.neg) ∧ V.cell? ⟨B, 4, none⟩ = some y.mv ∧ V.cell? ⟨B, 5, none⟩ = some y.kv) ∧ V.frozen? ⟨D4, 0, none⟩ = false ∧ Ey (fun k => k = D4) w0 V
theorem Sg.keep {w0 V V' : World} {D D1 D3 D4 D5 lb ab m B : Nat} {lv av : Value} {di : Int} {x y : Nv} (h : Sg w0 D D1 D3 D4 D5 lb ab m B lv av di x y V) (hb : Below V.heap.size V V') : Sg w0 D D1 D3 D4 D5 lb ab m B lv av di x y V' := by
  obtain ⟨⟨a1, a2, a3, a4, a5⟩, b1, ⟨c0, c1, c2, c3, c4, c5⟩, ⟨d0, d1, d2, d3, d4, d5⟩, z, e⟩ := h
  exact ⟨⟨cell_keep a1 hb, cell_keep a2 hb, cell_keep a3 hb, cell_keep a4 hb, cell_keep a5 hb⟩, cell_keep b1 hb, ⟨cell_keep c0 hb, cell_keep c1 hb, cell_keep c2 hb, cell_keep c3 hb, cell_keep c4 hb, cell_keep c5 hb⟩, ⟨cell_keep d0 hb, cell_keep d1 hb, cell_keep d2 hb, cell_keep d3 hb, cell_keep d4 hb, cell_keep d5 hb⟩, (World.frozen?_of_block (a := ⟨D4, 0, none⟩) (hb.block D4 (lt_of_cell a4))).trans z, e.trans (ey_of hb (fun k hk _ => hk))⟩
theorem far {w : World} {g i h : Nat} {v : Value} (e : g ≠ h) : (w.setCell ⟨h, 0, none⟩ v).cell? ⟨g, i, none⟩ = w.cell? ⟨g, i, none⟩ := World.cell?_of_block (a := ⟨g, i, none⟩) (setCell_blk e)
theorem hit {w : World} {g : Nat} {v u : Value} (h : w.cell? ⟨g, 0, none⟩ = some u) : (w.setCell ⟨g, 0, none⟩ v).cell? ⟨g, 0, none⟩ = some v := World.cell?_setCell_same' _ _ _ (by rw [h]; rfl)
theorem Sg.put {w0 V : World} {D D1 D3 D4 D5 lb ab m B : Nat} {lv av : Value} {di : Int} {x y : Nv} (hn : D ≠ D4 ∧ D1 ≠ D4 ∧ D3 ≠ D4 ∧ D5 ≠ D4 ∧ lb ≠ D4 ∧ ab ≠ D4 ∧ B ≠ D4) (h : Sg w0 D D1 D3 D4 D5 lb ab m B lv av di x y V) : Sg w0 D D1 D3 D4 D5 lb ab m B lv av di x y (V.setCell ⟨D4, 0, none⟩ (.bool true)) := by
  obtain ⟨⟨a1, a2, a3, a4, a5⟩, b1, ⟨c0, c1, c2, c3, c4, c5⟩, ⟨d0, d1, d2, d3, d4, d5⟩, z, e⟩ := h
  obtain ⟨n1, n2, n3, n4, n5, n6, n7⟩ := hn
  exact ⟨⟨(far n1).trans a1, (far n2).trans a2, (far n3).trans a3, hit a4, (far n4).trans a5⟩, (far n6).trans b1, ⟨(far n5).trans c0, (far n5).trans c1, (far n5).trans c2, (far n5).trans c3, (far n5).trans c4, (far n5).trans c5⟩, ⟨(far n7).trans d0, (far n7).trans d1, (far n7).trans d2, (far n7).trans d3, (far n7).trans d4, (far n7).trans d5⟩, by rw [World.frozen?_setCell]; exact z, e.setCell rfl _⟩
def GX (D k : Nat) : Prop := k = D + 3 ∨ k = D + 4 ∨ k = D + 5
theorem Gb.step {W : World} {D : Nat} {lv av : Value} {stop : Int} {m : Nat} {ov : Bool} (h : Gb W D lv av stop m ov) (ov' : Bool) : Gb ((W.setCell ⟨D + 3, 0, none⟩ (.int .i64 ((m + 1 : Nat) : Int))).setCell ⟨D + 5, 0, none⟩ (.bool ov')) D lv av stop (m + 1) ov' := by
  refine ⟨?_, ?_, ?_, ?_, ?_, ?_, ?_, ?_, ?_⟩
  · rw [far (by omega), far (by omega)]; exact h.l
  · rw [far (by omega), far (by omega)]; exact h.a
  · rw [far (by omega), far (by omega)]; exact h.s
  · rw [far (by omega)]; exact hit (u := .int .i64 (m : Int)) h.n
  · rw [far (by omega), far (by omega)]; exact h.k
  · exact hit (u := .bool ov) (by rw [far (by omega)]; exact h.o)
  · rw [World.frozen?_setCell, World.frozen?_setCell]; exact h.zn
  · rw [World.frozen?_setCell, World.frozen?_setCell]; exact h.zk
  · rw [World.frozen?_setCell, World.frozen?_setCell]; exact h.zo
set_option maxRecDepth 100000 in
set_option maxHeartbeats 8000000 in
theorem goes1_any {W : World} {D lb ab n lc ac m di : Nat} {stop : Int} {x y : Nv} {t : Tr} {ok1 ok2 : Nat → Prop} (hG : Gb W D (.slice (some ⟨lb, 0, none⟩) n lc) (.slice (some ⟨ab, 0, none⟩) n ac) stop m false)
    (hm : m < n) (hn : n ≤ 1000) (hx : At W lb (m * 6) x) (ha : W.cell? ⟨ab, m, none⟩ = some (.int .i64 (di : Int))) (hRx : Rd W ok1 t x) (hRy : Rd W ok2 t y) (hwt : wt t ≤ 3000) (h1 : ∀ b, ok1 b → b < W.heap.size ∧ b ≠ D + 4) (h2 : ∀ b, ok2 b → b < W.heap.size ∧ b ≠ D + 4) (hlb : ¬ GX D lb) (hab : ¬ GX D ab) :
    Calls Tryz.prog 35 #[.int .i64 (di : Int), y.v, .pointer (some ⟨D + 4, 0, none⟩), .pointer (some ⟨D + 5, 0, none⟩), .pointer (some ⟨D + 3, 0, none⟩), .pointer (some ⟨D, 0, none⟩), .pointer (some ⟨D + 1, 0, none⟩), .pointer (some ⟨D + 2, 0, none⟩)] W fun e w' =>
      e = .returned (.bool (!decide (((m + 1 : Nat) : Int) = stop))) ∧ Gb w' D (.slice (some ⟨lb, 0, none⟩) n lc) (.slice (some ⟨ab, 0, none⟩) n ac) stop (m + 1) (decide (((m + 1 : Nat) : Int) = stop)) ∧ Ey (GX D) W w' := by
  obtain ⟨⟨ma, mn, mc, hm1⟩, ⟨ka, kn, kc, hk1⟩⟩ := hRx.shape
  obtain ⟨⟨qa, qn, qc, hm2⟩, ⟨ra, rn, rc, hk2⟩⟩ := hRy.shape
  obtain ⟨xk, xa, xs, xn, xm, xkv⟩ := x
  obtain ⟨yk, ya, ys, yn, ym, yv⟩ := y
  simp only at hm1 hk1 hm2 hk2
  subst hm1
  subst hk1
  subst hm2
  subst hk2
  obtain ⟨W0, hW0⟩ : ∃ W', W.alloc (.cells #[.int .i64 yk, .int .i64 ya, .string ys, .bool yn, .slice qa qn qc, .slice ra rn rc] 27) = W' := ⟨_, rfl⟩
  have hb0 : Below W.heap.size W W0 := by rw [← hW0]; exact (Below.refl _ W).alloc (Nat.le_refl _) _
  have hY0 : At W0 W.heap.size 0 ⟨yk, ya, ys, yn, .slice qa qn qc, .slice ra rn rc⟩ := by rw [← hW0]; exact at_alloc W ⟨yk, ya, ys, yn, .slice qa qn qc, .slice ra rn rc⟩
  have hl5 : D + 5 < W.heap.size := lt_of_cell hG.o
  have hG0 : Gb W0 D (.slice (some ⟨lb, 0, none⟩) n lc) (.slice (some ⟨ab, 0, none⟩) n ac) stop m false := hG.keep (fun b _ hb => hb0.block b (by omega))
  have hX0 := hx.below hb0
  have hA0 := cell_keep ha hb0
  have C : ∀ V, Ey (fun k => k = D + 4) W0 V → Calls Tryz.prog 17 #[.agg #[.int .i64 yk, .int .i64 ya, .string ys, .bool yn, .slice qa qn qc, .slice ra rn rc], .agg #[.int .i64 xk, .int .i64 xa, .string xs, .bool xn, .slice ma mn mc, .slice ka kn kc], .bool true] V fun e w' => e = .returned (.bool true) ∧ Below V.heap.size V w' := fun V hV => by
    have hsz0 := hb0.size
    have hsz1 := hV.size
    exact same_any true t t ⟨yk, ya, ys, yn, .slice qa qn qc, .slice ra rn rc⟩ ⟨xk, xa, xs, xn, .slice ma mn mc, .slice ka kn kc⟩ V (hRy.same (fun b hb => (hV.block b (by have := (h2 b hb).1; omega) (h2 b hb).2).trans (hb0.block b (h2 b hb).1))) (hRx.same (fun b hb => (hV.block b (by have := (h1 b hb).1; omega) (h1 b hb).2).trans (hb0.block b (h1 b hb).1))) (Lk.refl true t) hwt (fun b hb => by have := (h2 b hb).1; omega) (fun b hb => by have := (h1 b hb).1; omega)
  have k1 := hG0.l
  have k2 := hG0.a
  have k3 := hG0.s
  have k4 := hG0.n
  have k5 := hG0.k
  have k6 := hG0.o
  have t1 : (m : Int) < (n : Int) := by omega
  have t2 : (0 : Int) ≤ (m : Int) := by omega
  have e1 : IntKind.i64.wrap ((m : Int) + 1) = ((m + 1 : Nat) : Int) := by rw [i64_small (by omega) (by omega)]; omega
  obtain ⟨x0, x1, x2, x3, x4, x5⟩ := hX0
  simp only at x0 x1 x2 x3 x4 x5
  obtain ⟨y0, y1, y2, y3, y4, y5⟩ := hY0.cells
  have HB0 := Lib.hid hb0
  have hz4 := hG0.zk
  have hNE : D ≠ D + 4 ∧ D + 1 ≠ D + 4 ∧ D + 3 ≠ D + 4 ∧ D + 5 ≠ D + 4 ∧ lb ≠ D + 4 ∧ ab ≠ D + 4 ∧ W.heap.size ≠ D + 4 := ⟨by omega, by omega, by omega, by omega, fun e => hlb (Or.inr (Or.inl e)), fun e => hab (Or.inr (Or.inl e)), by omega⟩
  have HNE := Lib.hid hNE
  have HKP : Hid (∀ V, Ey (fun k => k = D + 4) W0 V → V.cell? ⟨D + 4, 0, none⟩ = some (.bool true) → V.frozen? ⟨D + 4, 0, none⟩ = false → Gb V D (.slice (some ⟨lb, 0, none⟩) n lc) (.slice (some ⟨ab, 0, none⟩) n ac) stop m false) := fun V hV h4 hz => by
    have hsz0 := hb0.size
    have k : ∀ b, D ≤ b → b < D + 6 → b ≠ D + 4 → V.cell? ⟨b, 0, none⟩ = W0.cell? ⟨b, 0, none⟩ := fun b q1 q2 q3 => World.cell?_of_block (a := ⟨b, 0, none⟩) (hV.block b (by omega) q3)
    have z : ∀ b, D ≤ b → b < D + 6 → b ≠ D + 4 → V.frozen? ⟨b, 0, none⟩ = W0.frozen? ⟨b, 0, none⟩ := fun b q1 q2 q3 => World.frozen?_of_block (a := ⟨b, 0, none⟩) (hV.block b (by omega) q3)
    exact ⟨(k _ (by omega) (by omega) (by omega)).trans hG0.l, (k _ (by omega) (by omega) (by omega)).trans hG0.a, (k _ (by omega) (by omega) (by omega)).trans hG0.s, (k _ (by omega) (by omega) (by omega)).trans hG0.n, h4, (k _ (by omega) (by omega) (by omega)).trans hG0.o, (z _ (by omega) (by omega) (by omega)).trans hG0.zn, hz, (z _ (by omega) (by omega) (by omega)).trans hG0.zo⟩
  have HL5 := Lib.hid hl5
  clear hb0 hG hG0 hx ha hRx hRy hwt h1 h2 hY0 hl5 hm hn hlb hab hNE
  simp only [Nv.v]
  have n1 : ¬ D + 3 = D + 4 := by omega
  have n2 : ¬ D + 4 = D + 3 := by omega
  have n3 : ¬ D + 5 = D + 4 := by omega
  have n4 : ¬ D + 5 = D + 3 := by omega
  have n5 : ¬ D + 2 = D + 4 := by omega
  have n6 : ¬ D + 2 = D + 3 := by omega
  have n7 : ¬ D + 4 = D + 5 := by omega
  have n8 : ¬ D + 3 = D + 5 := by omega
  generalize hmm : m + 1 = m1 at *
  generalize hD1 : D + 1 = D1 at *
  generalize hD2 : D + 2 = D2 at *
  generalize hD3 : D + 3 = D3 at *
  generalize hD4 : D + 4 = D4 at *
  generalize hD5 : D + 5 = D5 at *
  go_enter Tryz.func35, Tryz.ntmps35
  go_wp2_with fail
  have hS : Sg W0 D D1 D3 D4 D5 lb ab m W.heap.size (.slice (some ⟨lb, 0, none⟩) n lc) (.slice (some ⟨ab, 0, none⟩) n ac) (di : Int) ⟨xk, xa, xs, xn, .slice ma mn mc, .slice ka kn kc⟩ ⟨yk, ya, ys, yn, .slice qa qn qc, .slice ra rn rc⟩ W0 := ⟨⟨k1, k2, k4, k5, k6⟩, hA0, ⟨x0, x1, x2, x3, x4, x5⟩, ⟨y0, y1, y2, y3, y4, y5⟩, hz4, Ey.refl _ _⟩
  clear hz4 k1 k2 k3 k4 k5 k6 x0 x1 x2 x3 x4 x5 y0 y1 y2 y3 y4 y5 hA0
  go_region_held3 (fun V => (V.cell? ⟨D, 0, none⟩ = some (.slice (some ⟨lb, 0, none⟩) n lc) ∧ V.cell? ⟨D1, 0, none⟩ = some (.slice (some ⟨ab, 0, none⟩) n ac) ∧ V.cell? ⟨D3, 0, none⟩ = some (.int .i64 (m : Int)) ∧ V.cell? ⟨D4, 0, none⟩ = some (.bool true) ∧ V.cell? ⟨D5, 0, none⟩ = some (.bool false)) ∧ V.cell? ⟨ab, m, none⟩ = some (.int .i64 (di : Int)) ∧
    (V.cell? ⟨lb, m * 6, none⟩ = some (.int .i64 xk) ∧ V.cell? ⟨lb, m * 6 + 1, none⟩ = some (.int .i64 xa) ∧ V.cell? ⟨lb, m * 6 + 2, none⟩ = some (.string xs) ∧ V.cell? ⟨lb, m * 6 + 3, none⟩ = some (.bool xn) ∧ V.cell? ⟨lb, m * 6 + 4, none⟩ = some (.slice ma mn mc) ∧ V.cell? ⟨lb, m * 6 + 5, none⟩ = some (.slice ka kn kc)) ∧
    (V.cell? ⟨W.heap.size, 0, none⟩ = some (.int .i64 yk) ∧ V.cell? ⟨W.heap.size, 1, none⟩ = some (.int .i64 ya) ∧ V.cell? ⟨W.heap.size, 2, none⟩ = some (.string ys) ∧ V.cell? ⟨W.heap.size, 3, none⟩ = some (.bool yn) ∧ V.cell? ⟨W.heap.size, 4, none⟩ = some (.slice qa qn qc) ∧ V.cell? ⟨W.heap.size, 5, none⟩ = some (.slice ra rn rc)) ∧ V.frozen? ⟨D4, 0, none⟩ = false ∧ Ey (fun k => k = D4) W0 V)
    (first | exact hS | exact Sg.keep hS (Below.refl _ _).drew | exact Sg.put (x := ⟨xk, xa, xs, xn, .slice ma mn mc, .slice ka kn kc⟩) (y := ⟨yk, ya, ys, yn, .slice qa qn qc, .slice ra rn rc⟩) HNE.out (by assumption) | exact Sg.keep (x := ⟨xk, xa, xs, xn, .slice ma mn mc, .slice ka kn kc⟩) (y := ⟨yk, ya, ys, yn, .slice qa qn qc, .slice ra rn rc⟩) (by assumption) (by assumption) | fail)
    (first | (go_at_call 17; refine (C _ (by first | exact (Sg.keep hS (Below.refl _ _).drew).2.2.2.2.2 | exact hS.2.2.2.2.2 | assumption)).mono ?_; rintro e w2 ⟨rfl, hb2⟩) | fail)
  have hS2 : Sg W0 D D1 D3 D4 D5 lb ab m W.heap.size (.slice (some ⟨lb, 0, none⟩) n lc) (.slice (some ⟨ab, 0, none⟩) n ac) (di : Int) ⟨xk, xa, xs, xn, .slice ma mn mc, .slice ka kn kc⟩ ⟨yk, ya, ys, yn, .slice qa qn qc, .slice ra rn rc⟩ (w2.setCell ⟨D4, 0, none⟩ (.bool true)) := by assumption
  have hE := hS2.2.2.2.2.2
  have hGb := HKP.out _ hE hS2.1.2.2.2.1 hS2.2.2.2.2.1
  clear hS2 hS C hb2
  generalize w2.setCell ⟨D4, 0, none⟩ (.bool true) = V at *
  have q2 : V.cell? ⟨D2, 0, none⟩ = some (.int .i64 stop) := by rw [← hD2]; exact hGb.s
  have q3 : V.cell? ⟨D3, 0, none⟩ = some (.int .i64 (m : Int)) := by rw [← hD3]; exact hGb.n
  have q4 : V.cell? ⟨D4, 0, none⟩ = some (.bool true) := by rw [← hD4]; exact hGb.k
  have q5 : V.cell? ⟨D5, 0, none⟩ = some (.bool false) := by rw [← hD5]; exact hGb.o
  have z3 : V.frozen? ⟨D3, 0, none⟩ = false := by rw [← hD3]; exact hGb.zn
  have z5 : V.frozen? ⟨D5, 0, none⟩ = false := by rw [← hD5]; exact hGb.zo
  have HGb := Lib.hid hGb
  have HE := Lib.hid hE
  clear hGb hE
  go_wp2_with fail
  go_ret
  subst hmm hD1 hD2 hD3 hD4 hD5
  refine ⟨rfl, HGb.out.step _, ?_⟩
  have hE2 : Ey (GX D) W0 V := ⟨HE.out.os, HE.out.tape, HE.out.output, HE.out.size, fun k hk hx => HE.out.block k hk (fun e => hx (Or.inr (Or.inl e)))⟩
  exact (((ey_of HB0.out (fun k hk _ => hk)).trans hE2).setCell (Or.inl rfl) _).setCell (Or.inr (Or.inr rfl)) _
end Nd
end Go.Proofs.YtfcgogpnbmikmaaGreatDoor
