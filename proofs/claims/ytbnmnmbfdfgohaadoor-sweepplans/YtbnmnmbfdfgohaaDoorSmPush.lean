/-
  Push and Pop of the heap of free slots.
-/
import Derived.Test.YtbnmnmbfdfgohaaDoorSmHeap
import Derived.Test.YtbnmnmbfdfgohaaDoorCeTell
namespace Go.Proofs.YtbnmnmbfdfgohaaDoor
open Go.RowKit Go.WideShapes

/-- A heap behind the second cell of block g. -/
structure Fh (w : World) (g : Nat) (fv : Value) (n : Nat) (f : Nat → Int) : Prop where
  c1 : w.cell? ⟨g, 1, none⟩ = some fv
  z : ∀ j, w.frozen? ⟨g, j, none⟩ = false
  hq : Hq w fv n f
  nf : fv.ownBlock ≠ some g
  sm : n ≤ 100001
/-- What a heap's calls leave as it was. -/
structure Fk (w w' : World) (g : Nat) (fv fv' : Value) : Prop where
  ex : Ex (fun k => k = g ∨ fv.ownBlock = some k) w w'
  c0 : w'.cell? ⟨g, 0, none⟩ = w.cell? ⟨g, 0, none⟩
  nw : ∀ k, fv'.ownBlock = some k → fv.ownBlock = some k ∨ w.heap.size ≤ k
theorem setCell_ne {w : World} {g i j : Nat} {v : Value} (h : i ≠ j) : (w.setCell ⟨g, j, none⟩ v).cell? ⟨g, i, none⟩ = w.cell? ⟨g, i, none⟩ :=
  World.cell?_setCell_other _ _ _ _ (by intro he; injection he with h1 h2; exact h h2.symm)
theorem setCell_hit {w : World} {g j : Nat} {u v : Value} (h : w.cell? ⟨g, j, none⟩ = some u) : (w.setCell ⟨g, j, none⟩ v).cell? ⟨g, j, none⟩ = some v :=
  World.cell?_setCell_same' _ _ _ (by rw [h]; rfl)
theorem setCell_blk {w : World} {g j k : Nat} {v : Value} (h : k ≠ g) : (w.setCell ⟨g, j, none⟩ v).heap[k]? = w.heap[k]? := Below.heap_setCell _ _ _ _ h
theorem push_mid {w w5 : World} {g n : Nat} {a : Option Addr} {cap : Nat} {f : Nat → Int} {k : Int} {v' : Value} {o : Obj} (h : Fh w g (.slice a n cap) n f) (hn : n ≤ 100000) (hown : w5.ownsRow 0 3 1 v' (n + 1) (ils n f ++ [.int .i64 k]))
    (hg : (w.alloc o).grownBy w5 (Value.slice a n cap).ownBlock) (hat : v'.ownBlock = (Value.slice a n cap).ownBlock ∨ v'.ownBlock = some (w.alloc o).heap.size) :
    Fh (w5.setCell ⟨g, 1, none⟩ v') g v' (n + 1) (updI f n k) ∧ Fk w (w5.setCell ⟨g, 1, none⟩ v') g (.slice a n cap) v' := by
  have hlg : g < w.heap.size := lt_of_cell h.c1
  have hb : w5.heap[g]? = w.heap[g]? := (hg.block g (by simp; omega) (fun e => h.nf e.symm)).trans (Below.heap_alloc _ _ _ hlg)
  have hs : (w.alloc o).heap.size = w.heap.size + 1 := by simp
  have hne : v'.ownBlock ≠ some g := by
    rcases hat with e | e
    · rw [e]; exact h.nf
    · rw [e, hs]; intro e; injection e with e; omega
  have hq5 : Hq w5 v' (n + 1) (updI f n k) := by unfold Hq; rw [← ils_snoc]; exact hown
  refine ⟨⟨setCell_hit ((World.cell?_of_block (a := ⟨g, 1, none⟩) hb).trans h.c1), fun j => ?_, hq5.same (fun k hk => setCell_blk (fun e => hne (by rw [hk, e]))), hne, by omega⟩, ?_, ?_, fun j hj => ?_⟩
  · rw [World.frozen?_setCell]
    exact (World.frozen?_of_block (a := ⟨g, j, none⟩) hb).trans (h.z j)
  · have hsz : w.heap.size ≤ w5.heap.size := by have := hg.size; rw [hs] at this; omega
    refine Ex.setCell (a := w) (w := w5) (p := ⟨g, 1, none⟩) (X := fun k => k = g ∨ (Value.slice a n cap).ownBlock = some k) ⟨hg.os, hg.tape, hg.output, hsz, fun j hj hx => ?_⟩ (fun _ => Or.inl rfl) _
    exact (hg.block j (by rw [hs]; omega) (fun e => hx (Or.inr e.symm))).trans (Below.heap_alloc _ _ _ hj)
  · rw [setCell_ne (by omega)]
    exact World.cell?_of_block (a := ⟨g, 0, none⟩) hb
  · rcases hat with e | e
    · rw [e] at hj
      exact Or.inl hj
    · rw [e, hs] at hj
      injection hj with hj
      exact Or.inr (by omega)
theorem ta_int (k : Int) (w : World) : (Instr.typeAssert (.iface 3 (.int .i64 k)) 20 3 false).run Tryd.prog w = .ok (.int .i64 k) w := by kernel_rfl
set_option maxRecDepth 100000 in
theorem l_push {w : World} {g n : Nat} {fv : Value} {f : Nat → Int} (h : Fh w g fv n f) (hn : n ≤ 100000) (k : Int) :
    Calls Tryd.prog 93 #[.pointer (some ⟨g, 1, none⟩), .iface 3 (.int .i64 k)] w fun e w' => e = .returned (.tuple #[]) ∧ ∃ fv', Fh w' g fv' (n + 1) (updI f n k) ∧ Fk w w' g fv fv' := by
  obtain ⟨a, cap, rfl⟩ := ownsS_shape h.hq
  have c1 := h.c1
  have z1 := h.z 1
  have hlg : g < w.heap.size := lt_of_cell c1
  obtain ⟨i0, hi, hz0, hz1, hz2⟩ := info_parts Tryd.infoN
  have hown : w.drew.ownsRow 0 3 1 (.slice a n cap) n (ils n f) := h.hq
  have HD : Hid (Fh w.drew g (.slice a n cap) n f) := ⟨h.c1, h.z, h.hq, h.nf, h.sm⟩
  have HF : Hid (∀ j u, [Value.int .i64 k][j]? = some u → (w.drew.alloc (.cells #[.int .i64 k] 3)).cell? (Addr.add ⟨w.drew.heap.size, 0, none⟩ j) = some u) := newR_one w.drew (.int .i64 k) 3
  have HGB : Hid (∀ w5 : World, (w.drew.alloc (.cells #[.int .i64 k] 3)).grownBy w5 (Value.slice a n cap).ownBlock → w5.heap[g]? = w.heap[g]?) := fun w5 hg => (hg.block g (by simp; exact Nat.lt_succ_of_lt hlg) (fun e => h.nf e.symm)).trans (Below.heap_alloc _ _ _ hlg)
  have hta := ta_int k
  clear h
  go_enter Tryd.func93, Tryd.ntmps93
  go_wp2
  go_region_law (refine stepS_append_own rfl _ _ 57 rfl 0 3 i0 (.int .i64 0) 1 8 Tryd.underlying57 hi hz0 hz1 hz2 rfl (by decide) (.slice a n cap) n (ils n f) (by simp [Act.eval]) (World.ownsRow.alloc hown _) ⟨w.drew.heap.size, 0, none⟩ 1 1 [.int .i64 k] (by simp [Act.eval]) rfl HF.out (fun u hu => by simp at hu; subst hu; rfl) (by unfold maxLen; omega) (by omega) (Nat.zero_le _) ?_; intro v' w5 hown2 hgrow hat; obtain ⟨a2, cap2, hv2⟩ := ownsS_shape hown2; subst hv2; have hb5 := HGB.out w5 hgrow; have g1 := (World.cell?_of_block (a := ⟨g, 1, none⟩) hb5).trans c1; have gz1 := (World.frozen?_of_block (a := ⟨g, 1, none⟩) hb5).trans z1)
  all_goals
    obtain ⟨h1, h2⟩ := push_mid HD.out hn hown2 hgrow hat
    go_wp2
    go_end0
    exact ⟨rfl, _, h1, ⟨⟨h2.ex.os, h2.ex.tape, h2.ex.output, h2.ex.size, h2.ex.block⟩, h2.c0, h2.nw⟩⟩
set_option maxRecDepth 100000 in
theorem l_pop {w : World} {g n : Nat} {fv : Value} {f : Nat → Int} (h : Fh w g fv (n + 1) f) :
    Calls Tryd.prog 92 #[.pointer (some ⟨g, 1, none⟩)] w fun e w' => e = .returned (.iface 3 (.int .i64 (f n))) ∧ ∃ fv', Fh w' g fv' n f ∧ Fk w w' g fv fv' := by
  obtain ⟨hb, cap, rfl, hlb⟩ := ownsS_some h.hq (by omega)
  have c1 := h.c1
  have z1 := h.z 1
  have c2 := h.hq.cell n (by omega)
  have hcap := h.hq.le
  have hsm := h.sm
  have e1 : IntKind.i64.wrap (((n + 1 : Nat) : Int) - 1) = (n : Int) := by rw [i64_small (by omega) (by omega)]; omega
  have e2 : ((n + 1 : Nat) : Int) = (n : Int) + 1 := by omega
  have i1 : (n : Int) < ((n + 1 : Nat) : Int) := by omega
  have i2 : (n : Int) ≤ (cap : Int) := by omega
  have HH := Lib.hid h
  clear h
  go_enter Tryd.func92, Tryd.ntmps92
  go_wp2
  go_ret
  have h := HH.out
  have hne : hb ≠ g := fun e => h.nf (by rw [e]; rfl)
  refine ⟨rfl, .slice (some ⟨hb, 0, none⟩) n cap, ⟨setCell_hit h.c1, fun j => by rw [World.frozen?_setCell]; exact h.z j, ?_, h.nf, by omega⟩, ⟨?_, setCell_ne (by omega), fun k hk => Or.inl hk⟩⟩
  · exact h.hq.cut.same (fun k hk => setCell_blk (fun e => by injection hk with hk; rw [← hk] at e; exact hne e))
  · exact (Ex.refl _ w).setCell (fun _ => Or.inl rfl) _
end Go.Proofs.YtbnmnmbfdfgohaaDoor
