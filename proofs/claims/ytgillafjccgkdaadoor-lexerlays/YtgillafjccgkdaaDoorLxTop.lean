/-
  A source is read.
-/
import Derived.Test.YtgillafjccgkdaaDoorLxRun
import Derived.Test.YtgillafjccgkdaaDoorLxCatch
namespace Go.Proofs.YtgillafjccgkdaaDoor
open Go.RowKit Go.WideShapes
namespace Lx

/-- What reading answers. -/
def AnsR (N : Nat) (l : List UInt8) (w : World) (e : Ending) (w' : World) : Prop :=
  ∃ o, Lex l cf0 o ∧ Below N w w' ∧ match o with
    | .ok ts => ∃ tv, e = .returned (.tuple #[tv, .agg #[.int .i64 0, .int .i64 0]]) ∧ w'.ownsRow N 29 3 tv ts.length (tkl ts)
    | .bad c p => e = .returned (.tuple #[.slice none 0 0, .agg #[.int .i64 (c : Int), .int .i64 (p : Int)]])
theorem rd_new (w : World) (src : ByteArray) : RdX (w.heap.size + 2) ((((w.alloc (.cells #[.slice none 0 0] 26)).alloc (.cells #[.int .i64 0, .int .i64 0] 35)).alloc (.cells #[.int .i64 0] 3)).alloc (.cells #[.string src, .int .i64 0, .int .i64 0, .slice (some ⟨w.heap.size + 2, 0, none⟩) 1 1, .slice none 0 0] 52)) (w.heap.size + 3) src cf0.s := by
  obtain ⟨W, hW⟩ : ∃ W, ((w.alloc (.cells #[.slice none 0 0] 26)).alloc (.cells #[.int .i64 0, .int .i64 0] 35)) = W := ⟨_, rfl⟩
  have hs : W.heap.size = w.heap.size + 2 := by rw [← hW]; simp
  rw [hW, ← hs]
  have hs1 : (W.alloc (.cells #[.int .i64 0] 3)).heap.size = W.heap.size + 1 := by simp
  have hs3 : w.heap.size + 3 = W.heap.size + 1 := by omega
  rw [hs3]
  refine ⟨.slice (some ⟨W.heap.size, 0, none⟩) 1 1, .slice none 0 0, by omega, ?_, ?_, ⟨rfl, Or.inl ⟨rfl, rfl⟩⟩, ?_, (fun e => by cases e), (fun k _ e => by cases e)⟩
  · have h := Blk.new (W.alloc (.cells #[.int .i64 0] 3)) #[.string src, .int .i64 0, .int .i64 0, .slice (some ⟨W.heap.size, 0, none⟩) 1 1, .slice none 0 0] 52
    rw [hs1] at h
    exact h.congr (fun j hj => by have hj : j < 5 := hj; rcases (by omega : j = 0 ∨ j = 1 ∨ j = 2 ∨ j = 3 ∨ j = 4) with rfl | rfl | rfl | rfl | rfl <;> rfl)
  · refine World.ownsRow.alloc ?_ _
    exact World.ownsRow_lit W #[.int .i64 0] 1 (Nat.le_refl _) (by decide) rfl
  · intro e
    injection e with e
    have e : W.heap.size = W.heap.size + 1 := e
    omega
set_option maxRecDepth 100000 in
set_option maxHeartbeats 2000000 in
theorem read_any (src : ByteArray) (w : World) (hsz : src.size ≤ 65536) (hE : Env w) :
    Calls Tryd.prog 12 #[.string src] w fun e w' => AnsR w.heap.size src.data.toList w e w' := by
  have hmf : ∀ (fn : Fn) (first cap : Array Value) (w : World), (Instr.makeFunc fn first cap).run Tryd.prog w = .ok (.func fn first cap) w := fun _ _ _ _ => rfl
  obtain ⟨W, hW⟩ : ∃ W, ((((w.alloc (.cells #[.slice none 0 0] 26)).alloc (.cells #[.int .i64 0, .int .i64 0] 35)).alloc (.cells #[.int .i64 0] 3)).alloc (.cells #[.string src, .int .i64 0, .int .i64 0, .slice (some ⟨w.heap.size + 1 + 1, 0, none⟩) 1 1, .slice none 0 0] 52)) = W := ⟨_, rfl⟩
  have hX : RdX (w.heap.size + 1 + 1) W (w.heap.size + 1 + 1 + 1) src cf0.s := by rw [← hW]; exact rd_new w src
  have hbW : Below w.heap.size w W := by
    rw [← hW]
    exact ((((Below.refl _ w).alloc (Nat.le_refl _) _).alloc (by simp) _).alloc (by simp; omega) _).alloc (by simp; omega) _
  have hs : W.heap.size = w.heap.size + 4 := by rw [← hW]; simp
  have b0 : Blk W w.heap.size 1 (fun _ => .slice none 0 0) := by
    have h := (Blk.new w #[.slice none 0 0] 26).congr (F' := fun _ => .slice none 0 0) (fun j hj => by have hj : j < 1 := hj; obtain rfl : j = 0 := (by omega); rfl)
    refine Blk.same h ?_
    rw [← hW, Below.heap_alloc _ _ _ (by simp; omega), Below.heap_alloc _ _ _ (by simp; omega), Below.heap_alloc _ _ _ (by simp)]
  have b1 : Blk W (w.heap.size + 1) 2 (fun _ => .int .i64 0) := by
    have h := (Blk.new (w.alloc (.cells #[.slice none 0 0] 26)) #[.int .i64 0, .int .i64 0] 35).congr (F' := fun _ => .int .i64 0) (fun j hj => by have hj : j < 2 := hj; rcases (by omega : j = 0 ∨ j = 1) with rfl | rfl <;> rfl)
    have e : (w.alloc (.cells #[.slice none 0 0] 26)).heap.size = w.heap.size + 1 := by simp
    rw [e] at h
    refine Blk.same h ?_
    rw [← hW, Below.heap_alloc _ _ _ (by simp), Below.heap_alloc _ _ _ (by simp)]
  have C := run_any hX hsz (fun w1 h1 => hE.below (hbW.trans (h1.mono (by omega))))
  have HBW := Lib.hid hbW
  have HS := Lib.hid hs
  have HB0 := Lib.hid b0
  have HB1 := Lib.hid b1
  clear hX hbW hs b0 b1
  go_enter_defers Tryd.func12, Tryd.ntmps12
  go_wp2_with fail
  refine C.mono ?_
  rintro e w1 ⟨o, hL, hB, hm⟩
  clear C
  have HL := Lib.hid hL
  have HBB := Lib.hid hB
  have k0 : Blk w1 w.heap.size 1 (fun _ => .slice none 0 0) := HB0.out.same (hB.block _ (by omega))
  have k1 : Blk w1 (w.heap.size + 1) 2 (fun _ => .int .i64 0) := HB1.out.same (hB.block _ (by omega))
  have p0 := k0.c 0 (by omega)
  have q0 := k1.c 0 (by omega)
  have q1 := k1.c 1 (by omega)
  have zp0 := k0.z 0
  have zq0 := k1.z 0
  have zq1 := k1.z 1
  clear k0 k1 hL hB hW
  cases o with
  | ok ts =>
    obtain ⟨rfl, a, p, bs, hX1⟩ := hm
    obtain ⟨bv, tv, h⟩ := hX1
    have c4 := h.c4
    obtain ⟨ta, cap, rfl⟩ := ownsS_shape h.to
    have HH := Lib.hid h
    clear h
    simp only at c4
    go_wp2_with fail
    have HW2 : Hid (∀ w2, ((w1.setCell ⟨w.heap.size, 0, none⟩ (.slice ta ts.length cap)).setCell ⟨w.heap.size + 1, 0, none⟩ (.int .i64 0)).setCell ⟨w.heap.size + 1, 1, none⟩ (.int .i64 0) = w2 → w2.cell? ⟨w.heap.size, 0, none⟩ = some (.slice ta ts.length cap) ∧ w2.cell? ⟨w.heap.size + 1, 0, none⟩ = some (.int .i64 0) ∧ w2.cell? ⟨w.heap.size + 1, 1, none⟩ = some (.int .i64 0) ∧ Below w.heap.size w1 w2 ∧ w2.ownsRow w.heap.size 29 3 (.slice ta ts.length cap) ts.length (tkl ts)) := by
      intro w2 e
      have x0 : (w1.setCell ⟨w.heap.size, 0, none⟩ (.slice ta ts.length cap)).cell? ⟨w.heap.size + 1, 0, none⟩ = some (.int .i64 0) := by rw [World.cell?_setCell_other _ _ _ _ (by intro e; injection e with e1 e2; omega)]; exact q0
      have x1 : ((w1.setCell ⟨w.heap.size, 0, none⟩ (.slice ta ts.length cap)).setCell ⟨w.heap.size + 1, 0, none⟩ (.int .i64 0)).cell? ⟨w.heap.size + 1, 1, none⟩ = some (.int .i64 0) := by rw [World.cell?_setCell_other _ _ _ _ (by intro e; injection e with e1 e2; cases e2), World.cell?_setCell_other _ _ _ _ (by intro e; injection e with e1 e2; omega)]; exact q1
      subst e
      refine ⟨?_, ?_, ?_, ?_, ?_⟩
      · rw [World.cell?_setCell_other _ _ _ _ (by intro e; injection e with e1 e2; omega), World.cell?_setCell_other _ _ _ _ (by intro e; injection e with e1 e2; omega)]
        exact World.cell?_setCell_same' _ _ _ (by rw [p0]; rfl)
      · rw [World.cell?_setCell_other _ _ _ _ (by intro e; injection e with e1 e2; cases e2)]
        exact World.cell?_setCell_same' _ _ _ (by rw [x0]; rfl)
      · exact World.cell?_setCell_same' _ _ _ (by rw [x1]; rfl)
      · exact (((Below.refl _ w1).setCell (p := ⟨w.heap.size, 0, none⟩) (Nat.le_refl _) _).setCell (p := ⟨w.heap.size + 1, 0, none⟩) (Nat.le_succ _) _).setCell (p := ⟨w.heap.size + 1, 1, none⟩) (Nat.le_succ _) _
      · have hto : w1.ownsRow w.heap.size 29 3 (.slice ta ts.length cap) ts.length (tkl ts) := by
          have h := HH.out.to
          refine ⟨h.1, ?_⟩
          rcases h.2 with h0 | ⟨g, c, cur, e, h1, h2⟩
          · exact Or.inl h0
          · exact Or.inr ⟨g, c, cur, e, by omega, h2⟩
        refine ownsS_same hto (fun k hk => ?_)
        have hk2 := (ownsS_base HH.out.to k hk).1
        rw [setCell_blk (by omega), setCell_blk (by omega), setCell_blk (by omega)]
    generalize ((w1.setCell ⟨w.heap.size, 0, none⟩ (.slice ta ts.length cap)).setCell ⟨w.heap.size + 1, 0, none⟩ (.int .i64 0)).setCell ⟨w.heap.size + 1, 1, none⟩ (.int .i64 0) = w2 at *
    obtain ⟨r0, r1, r2, hb2, ho2⟩ := HW2.out w2 rfl
    refine leaves_cons (f := 15) (args := #[.pointer (some ⟨w.heap.size, 0, none⟩), .pointer (some ⟨w.heap.size + 1, 0, none⟩)]) (by simp) (by simp [go_sem]) ?_
    refine (catch_idle _ _ _).mono ?_
    rintro e u' w3 ⟨rfl, rfl, hb3⟩
    have s0 := (hb3.cell (p := ⟨w.heap.size, 0, none⟩) (lt_of_cell r0)).trans r0
    have s1 := (hb3.cell (p := ⟨w.heap.size + 1, 0, none⟩) (lt_of_cell r1)).trans r1
    have s2 := (hb3.cell (p := ⟨w.heap.size + 1, 1, none⟩) (lt_of_cell r2)).trans r2
    refine ⟨.tuple #[.slice ta ts.length cap, .agg #[.int .i64 0, .int .i64 0]], by simp [results, Tryd.results12, go_sem, s0, s1, s2], .ok ts, HL.out, ?_, _, rfl, ?_⟩
    · exact ((HBW.out.trans (HBB.out.mono (by omega))).trans hb2).trans (hb3.mono (by have := lt_of_cell r0; omega))
    · exact ownsS_same ho2 (fun k hk => hb3.block k (ownsS_base ho2 k hk).2)
  | bad c p =>
    obtain rfl := hm
    unfold offE
    dsimp only
    refine leaves_cons (f := 15) (args := #[.pointer (some ⟨w.heap.size, 0, none⟩), .pointer (some ⟨w.heap.size + 1, 0, none⟩)]) (by simp) (by simp [go_sem]) ?_
    refine (catch_panic _ _ _ (c : Int) (p : Int) (by omega) _ _ _ p0 q0 q1 zp0 zq0 zq1).mono ?_
    rintro e u' w3 ⟨rfl, rfl, hC⟩
    have s0 := hC.p
    have s1 := hC.q0
    have s2 := hC.q1
    refine ⟨.tuple #[.slice none 0 0, .agg #[.int .i64 (c : Int), .int .i64 (p : Int)]], by simp [results, Tryd.results12, go_sem, s0, s1, s2], .bad c p, HL.out, ?_, rfl⟩
    refine (HBW.out.trans (HBB.out.mono (by omega))).trans ⟨hC.os, hC.tape, hC.output, hC.size, fun k hk => hC.block k (Nat.lt_of_lt_of_le hk ?_) (by omega) (by omega)⟩
    have := HBB.out.size
    have := HBW.out.size
    omega
end Lx
end Go.Proofs.YtgillafjccgkdaaDoor
