/-
  Long division: the memory in which it works.
-/
import Derived.Test.YteplmnnpmekngabDlArith
namespace Go.Proofs.Yteplmnnpmekngab
open Go.RowKit Go.Shelf

theorem Seg.sub {k : IntKind} {w : World} {b off : Nat} {xs : List Nat} (h : Seg k w b off xs) (i n : Nat) (hi : i + n ≤ xs.length) : Seg k w b (off + i) ((xs.drop i).take n) := by
  intro j hj
  rw [List.length_take, List.length_drop] at hj
  rw [Nat.add_assoc, h (i + j) (by omega), List.getElem?_take_of_lt (by omega), List.getElem?_drop]
theorem Free.sub {w : World} {b off n : Nat} (h : Free w b off n) (i m : Nat) (hi : i + m ≤ n) : Free w b (off + i) m := fun j hj => by
  rw [Nat.add_assoc]
  exact h (i + j) (by omega)
theorem get_three (A B C : List Nat) (j : Nat) : (A ++ B ++ C)[j]?.getD 0 = if j < A.length then A[j]?.getD 0 else if j < A.length + B.length then B[j - A.length]?.getD 0 else C[j - A.length - B.length]?.getD 0 := by
  rw [List.append_assoc]
  by_cases h1 : j < A.length
  · rw [if_pos h1, List.getElem?_append_left h1]
  · rw [if_neg h1, List.getElem?_append_right (by omega)]
    by_cases h2 : j < A.length + B.length
    · rw [if_pos h2, List.getElem?_append_left (by omega)]
    · rw [if_neg h2, List.getElem?_append_right (by omega)]
theorem Seg.turned {w w' : World} {g k n : Nat} {U part : List Nat} (h : Seg .u32 w g 0 U) (ht : RowTurn w w' g k n) (hp : Seg .u32 w' g k part) (hl : part.length = n) (hk : k + n ≤ U.length) : Seg .u32 w' g 0 (U.take k ++ part ++ U.drop (k + n)) := by
  intro j hj
  have lk : (U.take k).length = k := by simp; omega
  rw [get_three, lk, hl, Nat.zero_add]
  rw [List.length_append, List.length_append, lk, hl, List.length_drop] at hj
  by_cases h1 : j < k
  · rw [if_pos h1, ht.cell j (.inl h1), List.getElem?_take_of_lt h1]
    have := h j (by omega)
    rwa [Nat.zero_add] at this
  · rw [if_neg h1]
    by_cases h2 : j < k + n
    · rw [if_pos h2]
      have := hp (j - k) (by omega)
      rwa [show k + (j - k) = j by omega] at this
    · rw [if_neg h2, ht.cell j (.inr (by omega)), List.getElem?_drop, show k + n + (j - k - n) = j by omega]
      have := h j (by omega)
      rwa [Nat.zero_add] at this
theorem RowTurn.of_only {w w' : World} {g off n : Nat} (h : OnlyRow w w' g off n) : RowTurn w w' g off n := ⟨h.os, h.tape, h.output, Nat.le_of_eq h.size.symm, fun k _ hk => h.block k hk, h.cell, fun _ => h.frozen _⟩
theorem keeps_turn {B : Nat} {w w' : World} {g off n : Nat} (h : RowTurn w w' g off n) (hg : g < B) : KeepsFrom B w w' := ⟨h.size, fun k _ hk hb _ => (h.block k (Array.getElem?_eq_some_iff.1 hb).1 (by omega)).trans hb⟩

/-- The boxes and rows of divideLong: B the quotient's box, N7 and N8 the boxes of u and v. -/
structure Dl (w W : World) (B gU N7 gV N8 gT m1 n L : Nat) (U vs ts : List Nat) : Prop where
  bt : Boxed W B 22 (.slice (some ⟨gT, 0, none⟩) L L)
  bu : Boxed W N7 22 (.slice (some ⟨gU, 0, none⟩) m1 m1)
  bv : Boxed W N8 22 (.slice (some ⟨gV, 0, none⟩) n (n + 1))
  su : Seg .u32 W gU 0 U
  fu : Free W gU 0 U.length
  un : U ≠ []
  sv : Seg .u32 W gV 0 vs
  vn : vs ≠ []
  rt : Row .u32 52 W gT ts
  be : Below w.heap.size w W
/-- The order in which the blocks were made. -/
structure Ord (H B gU N7 gV N8 gT : Nat) : Prop where
  h0 : H ≤ B
  h1 : B < gU
  h2 : gU < N7
  h3 : N7 < gV
  h4 : gV < N8
  h5 : N8 < gT
theorem Dl.below {w W W' : World} {B gU N7 gV N8 gT m1 n L : Nat} {U vs ts : List Nat} (h : Dl w W B gU N7 gV N8 gT m1 n L U vs ts) (hb : Below W.heap.size W W') : Dl w W' B gU N7 gV N8 gT m1 n L U vs ts :=
  ⟨boxed_below h.bt hb, boxed_below h.bu hb, boxed_below h.bv hb, h.su.below hb (h.su.lt h.un), h.fu.below hb (h.su.lt h.un), h.un, h.sv.below hb (h.sv.lt h.vn), h.vn, h.rt.belowW hb, h.be.trans (hb.mono h.be.size)⟩
theorem Dl.turn {w W W' : World} {B gU N7 gV N8 gT m1 n L k m : Nat} {U vs ts part : List Nat} (h : Dl w W B gU N7 gV N8 gT m1 n L U vs ts) (o : Ord w.heap.size B gU N7 gV N8 gT) (ht : RowTurn W W' gU k m) (hp : Seg .u32 W' gU k part) (hl : part.length = m) (hk : k + m ≤ U.length) : Dl w W' B gU N7 gV N8 gT m1 n L (U.take k ++ part ++ U.drop (k + m)) vs ts := by
  have o0 := o.h0; have o1 := o.h1; have o2 := o.h2; have o3 := o.h3; have o4 := o.h4; have o5 := o.h5
  have hlen : (U.take k ++ part ++ U.drop (k + m)).length = U.length := by simp [hl]; omega
  have lv := h.sv.lt h.vn
  refine ⟨(ht.block B h.bt.lt (by omega)).trans h.bt, (ht.block N7 h.bu.lt (by omega)).trans h.bu, (ht.block N8 h.bv.lt (by omega)).trans h.bv, h.su.turned ht hp hl hk, fun j hj => (ht.frozen _).trans (h.fu j (by omega)), fun e => ?_, fun j hj => (World.cell?_of_block (a := ⟨gV, 0 + j, none⟩) (ht.block gV lv (by omega))).trans (h.sv j hj), h.vn, (ht.block gT h.rt.lt (by omega)).trans h.rt, h.be.trans ?_⟩
  · rw [e] at hlen
    exact h.un (List.eq_nil_of_length_eq_zero hlen.symm)
  · exact ht.below (by omega) h.be.size
theorem Dl.setU {w W : World} {B gU N7 gV N8 gT m1 n L : Nat} {U vs ts : List Nat} (h : Dl w W B gU N7 gV N8 gT m1 n L U vs ts) (o : Ord w.heap.size B gU N7 gV N8 gT) (j v : Nat) (hj : j < U.length) : Dl w (W.setCell ⟨gU, j, none⟩ (.int .u32 (v : Int))) B gU N7 gV N8 gT m1 n L (U.set j v) vs ts := by
  have o0 := o.h0; have o1 := o.h1; have o2 := o.h2; have o3 := o.h3; have o4 := o.h4; have o5 := o.h5
  have hb : ∀ k, k < W.heap.size → k ≠ gU → (W.setCell ⟨gU, j, none⟩ (.int .u32 (v : Int))).heap[k]? = W.heap[k]? := fun k hk hne => (grownBy_setCell'' W ⟨gU, j, none⟩ _).block k hk (fun e => hne (by cases e; rfl))
  have lv := h.sv.lt h.vn
  have su := h.su.set j hj v
  rw [Nat.zero_add] at su
  exact ⟨(hb B h.bt.lt (by omega)).trans h.bt, (hb N7 h.bu.lt (by omega)).trans h.bu, (hb N8 h.bv.lt (by omega)).trans h.bv, su, (by rw [List.length_set]; exact h.fu.set _ _), (by intro e; exact h.un (by simpa using e)), fun i hi => (World.cell?_of_block (a := ⟨gV, 0 + i, none⟩) (hb gV lv (by omega))).trans (h.sv i hi), h.vn, (hb gT h.rt.lt (by omega)).trans h.rt, h.be.setCell (p := ⟨gU, j, none⟩) (by simp only; omega) _⟩
theorem Dl.setT {w W : World} {B gU N7 gV N8 gT m1 n L : Nat} {U vs ts : List Nat} (h : Dl w W B gU N7 gV N8 gT m1 n L U vs ts) (o : Ord w.heap.size B gU N7 gV N8 gT) (j v : Nat) : Dl w (W.setCell ⟨gT, j, none⟩ (.int .u32 (v : Int))) B gU N7 gV N8 gT m1 n L U vs (ts.set j v) := by
  have o0 := o.h0; have o1 := o.h1; have o2 := o.h2; have o3 := o.h3; have o4 := o.h4; have o5 := o.h5
  have hb : ∀ k, k < W.heap.size → k ≠ gT → (W.setCell ⟨gT, j, none⟩ (.int .u32 (v : Int))).heap[k]? = W.heap[k]? := fun k hk hne => (grownBy_setCell'' W ⟨gT, j, none⟩ _).block k hk (fun e => hne (by cases e; rfl))
  have lv := h.sv.lt h.vn
  have lu := h.su.lt h.un
  exact ⟨(hb B h.bt.lt (by omega)).trans h.bt, (hb N7 h.bu.lt (by omega)).trans h.bu, (hb N8 h.bv.lt (by omega)).trans h.bv, fun i hi => (World.cell?_of_block (a := ⟨gU, 0 + i, none⟩) (hb gU lu (by omega))).trans (h.su i hi), h.fu.set _ _, h.un, fun i hi => (World.cell?_of_block (a := ⟨gV, 0 + i, none⟩) (hb gV lv (by omega))).trans (h.sv i hi), h.vn, h.rt.turn2 j v, h.be.setCell (p := ⟨gT, j, none⟩) (by simp only; omega) _⟩
theorem Dl.drewD {w W : World} {B gU N7 gV N8 gT m1 n L : Nat} {U vs ts : List Nat} (h : Dl w W B gU N7 gV N8 gT m1 n L U vs ts) : Dl w W.drew B gU N7 gV N8 gT m1 n L U vs ts := h.below below_drew
theorem not_cells {W : World} {r : Nat} {o : Obj} {j : Nat} {v : Value} (h : W.heap[r]? = some o) (hc : o.isCells = false) (hv : W.cell? ⟨r, j, none⟩ = some v) : False := by
  unfold World.cell? at hv
  simp only [h] at hv
  cases o <;> simp [Obj.isCells] at hc hv
theorem own_dl {β : Type} {w : World} {C B gU N7 gV N8 gT m1 n L : Nat} (f : β → List Nat) (vs : List Nat) (g : β → List Nat) (hC : w.heap.size ≤ C) : OwnFrom C (fun s W => Dl w W B gU N7 gV N8 gT m1 n L (f s) vs (g s)) := by
  intro s X Y row h hg hr
  have hr2 : ∀ r, row = some r → ∃ o : Obj, X.heap[r]? = some o ∧ o.isCells = false := fun r e => (hr r e).2
  have hne : ∀ b j v, X.cell? ⟨b, j, none⟩ = some v → some b ≠ row := fun b j v hv e => by
    obtain ⟨o, ho, hc⟩ := hr2 b e.symm
    exact not_cells ho hc hv
  have hu0 : X.cell? ⟨gU, 0 + 0, none⟩ = _ := h.su 0 (List.length_pos_iff.2 h.un)
  have bU : Y.heap[gU]? = X.heap[gU]? := hg.block gU (h.su.lt h.un) (fun e => hne gU _ _ hu0 e)
  exact ⟨boxed_own (β := Unit) B _ (fun _ => _) () _ _ row h.bt hg hr2, boxed_own (β := Unit) N7 _ (fun _ => _) () _ _ row h.bu hg hr2, boxed_own (β := Unit) N8 _ (fun _ => _) () _ _ row h.bv hg hr2, fun j hj => cell_kept (h.su j hj) hg hr2, fun j hj => (World.frozen?_of_block (a := ⟨gU, 0 + j, none⟩) bU).trans (h.fu j hj), h.un, fun j hj => cell_kept (h.sv j hj) hg hr2, h.vn, own_row (β := Unit) .u32 _ gT (fun _ => g s) () _ _ row h.rt hg hr2, ownFrom_below (β := Unit) (Nat.le_refl _) hC () _ _ row h.be hg hr⟩
end Go.Proofs.Yteplmnnpmekngab
