/-
  The law's list of the first cells that All goes through.
-/
import Derived.Test.YtddgkdjpklegnaaTrAll
namespace Go.Proofs.Ytddgkdjpklegnaa.Tr
open Go.RowKit Go.WideShapes

/-- What cells keeps, from block K on: how many at most, the hash, the log, the list; the rows lie behind block b, which holds the trail's walk. -/
structure Cst (w : World) (K : Nat) (b : Nat) (M : Nat) (h : Int) (L i : Nat) (W : World) : Prop where
  m : W.cell? ⟨K, 0, none⟩ = some (.int .i64 (M : Int))
  l : W.cell? ⟨K + 2, 0, none⟩ = some (.int .i64 (L : Int))
  v : ∃ v, W.cell? ⟨K + 3, 0, none⟩ = some v ∧ Ints (b + 1) W v (row (uw h) L i)
  f : W.frozen? ⟨K + 3, 0, none⟩ = false
  s : b + 1 ≤ W.heap.size
  k : K + 4 ≤ b
  b : Below K w W

set_option maxRecDepth 100000 in
set_option maxHeartbeats 4000000 in
theorem cells1_any (w W : World) (K b M : Nat) (h : Int) (L i : Nat) (hC : Cst w K b M h L i W) (hi : i < M) (hM : M ≤ 3000) :
    Calls Try.prog 18 #[.int .i64 ((trl (uw h) L i : Nat) : Int), .pointer (some ⟨K + 3, 0, none⟩), .pointer (some ⟨K, 0, none⟩)] W fun e W' =>
      e = .returned (.bool (decide (i + 1 < M))) ∧ Cst w K b M h L (i + 1) W' ∧ W'.heap[b]? = W.heap[b]? := by
  obtain ⟨i0, hi0, hz0, hz1, hz2⟩ := info_parts Try.infoInt
  obtain ⟨hm, hl, ⟨v, hv, hI⟩, hf, hs, hk, hb⟩ := hC
  have hown : W.ownsRow (b + 1) 3 1 v (row (uw h) L i).length ((row (uw h) L i).map fun x : Int => Value.int .i64 x) := hI
  rw [row_len] at hown
  obtain ⟨a, cap, g, ev, hcap, _, _⟩ := hI.open
  rw [row_len] at ev hcap
  subst ev
  have FIN : Hid (∀ (v' : Value) (w2 : World), w2.ownsRow (b + 1) 3 1 v' (i + 1) (((row (uw h) L i).map fun x : Int => Value.int .i64 x) ++ [.int .i64 ((trl (uw h) L i : Nat) : Int)]) → Ints (b + 1) w2 v' (row (uw h) L (i + 1))) := by
    intro v' w2 h5
    rw [row_succ]
    exact ints_snoc (by rw [row_len]; exact h5)
  obtain ⟨R, hR⟩ : ∃ R, ((row (uw h) L i).map fun x : Int => Value.int .i64 x) = R := ⟨_, rfl⟩
  rw [hR] at hown FIN
  clear hR hI
  generalize trl (uw h) L i = c at FIN ⊢
  have t1 : (i : Int) < (M : Int) := by omega
  have HF : Hid (∀ (v' : Value) (w2 : World), w2.ownsRow (b + 1) 3 1 v' (i + 1) (R ++ [Value.int .i64 (c : Int)]) → (W.alloc (.cells #[.int .i64 (c : Int)] 3)).grownBy w2 (Value.slice a i cap).ownBlock →
      ∃ a' cap', v' = .slice a' (i + 1) cap' ∧ w2.cell? ⟨K + 3, 0, none⟩ = some (.slice a i cap) ∧ w2.frozen? ⟨K + 3, 0, none⟩ = false ∧ w2.cell? ⟨K, 0, none⟩ = some (.int .i64 (M : Int)) ∧ Hid (Cst w K b M h L (i + 1) (w2.setCell ⟨K + 3, 0, none⟩ (.slice a' (i + 1) cap')) ∧ (w2.setCell ⟨K + 3, 0, none⟩ (.slice a' (i + 1) cap')).heap[b]? = W.heap[b]?)) := by
    intro v' w2 hown2 hgrow
    have hI2 := FIN.out v' w2 hown2
    have hb2 := below_grown (Below.refl (b + 1) W) hs hown hgrow
    obtain ⟨a', cap', g', ev, _, _, _⟩ := hI2.open
    rw [row_len] at ev
    subst ev
    have c3 : w2.cell? ⟨K + 3, 0, none⟩ = some (.slice a i cap) := (hb2.cell (p := ⟨K + 3, 0, none⟩) (by show K + 3 < b + 1; omega)).trans hv
    have c0 : w2.cell? ⟨K, 0, none⟩ = some (.int .i64 (M : Int)) := (hb2.cell (p := ⟨K, 0, none⟩) (by show K < b + 1; omega)).trans hm
    have c2 : w2.cell? ⟨K + 2, 0, none⟩ = some (.int .i64 (L : Int)) := (hb2.cell (p := ⟨K + 2, 0, none⟩) (by show K + 2 < b + 1; omega)).trans hl
    have f3 : w2.frozen? ⟨K + 3, 0, none⟩ = false := (World.frozen?_of_block (a := ⟨K + 3, 0, none⟩) (hb2.block (K + 3) (by omega))).trans hf
    refine ⟨a', cap', rfl, c3, f3, c0, ?_, (Below.heap_setCell w2 ⟨K + 3, 0, none⟩ _ b (by show b ≠ K + 3; omega)).trans (hb2.block b (by omega))⟩
    have ne : ∀ (i j : Nat), i ≠ j → (⟨i, 0, none⟩ : Addr) ≠ ⟨j, 0, none⟩ := fun i j h e => by injection e with e1; exact h e1
    refine ⟨?_, ?_, ⟨.slice a' (i + 1) cap', ?_, ?_⟩, ?_, ?_, hk, ?_⟩
    · rw [World.cell?_setCell_other _ _ _ _ (ne _ _ (by omega))]; exact c0
    · rw [World.cell?_setCell_other _ _ _ _ (ne _ _ (by omega))]; exact c2
    · exact World.cell?_setCell_same' _ _ _ (by rw [c3]; rfl)
    · exact ownsRow_setCell_below hI2 (by show K + 3 < b + 1; omega) _
    · rw [World.frozen?_setCell]; exact f3
    · have := hb2.size; simp; omega
    · exact (hb.trans (hb2.mono (by omega))).setCell (p := ⟨K + 3, 0, none⟩) (by show K ≤ K + 3; omega) _
  go_enter Try.func18, Try.ntmps18
  by_cases t2 : i + 1 < M
  · have t3 : (i : Int) + 1 < (M : Int) := by omega
    rw [decide_eq_true t2]
    go_wp2_with (at_builtin; refine wpList_append_own _ rfl _ _ 22 rfl (b + 1) 3 i0 (.int .i64 0) 1 8 Try.underlying22 hi0 hz0 hz1 hz2 rfl (by decide) _ _ _ rfl (World.ownsRow.alloc hown _) ⟨W.heap.size, 0, none⟩ 1 1 [.int .i64 (c : Int)] rfl rfl (new_one _ _ _) (by simp [Value.oneCell']) (by unfold maxLen; omega) (by omega) (by simp; omega) ?_; intro v' w2 hown2 hgrow _; obtain ⟨a', cap', ev, c3, f3, c0, HC⟩ := HF.out v' w2 hown2 hgrow; subst ev; clear hgrow hown2)
    go_ret
    exact ⟨rfl, HC.out.1, HC.out.2⟩
  · have t3 : ¬ (i : Int) + 1 < (M : Int) := by omega
    rw [decide_eq_false t2]
    go_wp2_with (at_builtin; refine wpList_append_own _ rfl _ _ 22 rfl (b + 1) 3 i0 (.int .i64 0) 1 8 Try.underlying22 hi0 hz0 hz1 hz2 rfl (by decide) _ _ _ rfl (World.ownsRow.alloc hown _) ⟨W.heap.size, 0, none⟩ 1 1 [.int .i64 (c : Int)] rfl rfl (new_one _ _ _) (by simp [Value.oneCell']) (by unfold maxLen; omega) (by omega) (by simp; omega) ?_; intro v' w2 hown2 hgrow _; obtain ⟨a', cap', ev, c3, f3, c0, HC⟩ := HF.out v' w2 hown2 hgrow; subst ev; clear hgrow hown2)
    go_ret
    exact ⟨rfl, HC.out.1, HC.out.2⟩
/-- The four blocks that cells lays. -/
def four (w : World) (M h l : Int) : World :=
  (((w.alloc (.cells #[.int .i64 M] 3)).alloc (.cells #[.int .i64 h] 3)).alloc (.cells #[.int .i64 l] 3)).alloc (.cells #[.slice none 0 0] 22)
theorem four_size (w : World) (M h l : Int) : (four w M h l).heap.size = w.heap.size + 4 := by simp [four]
theorem four_below (w : World) (M h l : Int) : Below w.heap.size w (four w M h l) :=
  ((((Below.refl _ w).alloc (Nat.le_refl _) _).alloc (by simp) _).alloc (by simp; omega) _).alloc (by simp; omega) _
theorem four_heap (w : World) (M h l : Int) : ∀ j o, [Obj.cells #[.int .i64 M] 3 (0, 0), .cells #[.int .i64 h] 3 (0, 0), .cells #[.int .i64 l] 3 (0, 0), .cells #[.slice none 0 0] 22 (0, 0)][j]? = some o → (four w M h l).heap[w.heap.size + j]? = some o := by
  have key : ∀ (w : World) (o : Obj) (k : Nat), k < w.heap.size → (w.alloc o).heap[k]? = w.heap[k]? := fun w o k h => (World.grownBy_alloc w o none).block k h (by simp)
  have new : ∀ (w : World) (o : Obj) (k : Nat), k = w.heap.size → (w.alloc o).heap[k]? = some o := fun w o k h => by subst h; exact heap_alloc_new w o
  intro j o h
  unfold four
  match j, h with
  | 0, h => rw [key _ _ _ (by simp <;> omega), key _ _ _ (by simp <;> omega), key _ _ _ (by simp), new _ _ _ (by simp)]; simpa using h
  | 1, h => rw [key _ _ _ (by simp <;> omega), key _ _ _ (by simp), new _ _ _ (by simp)]; simpa using h
  | 2, h => rw [key _ _ _ (by simp), new _ _ _ (by simp)]; simpa using h
  | 3, h => rw [new _ _ _ (by simp)]; simpa using h
  | j + 4, h => simp at h
theorem frozen_new {w : World} {k : Nat} {xs : Array Value} {t : TypeId} (h : w.heap[k]? = some (.cells xs t (0, 0))) (j : Nat) : w.frozen? ⟨k, j, none⟩ = false := by
  simp [World.frozen?, h]
theorem four_cst (w : World) (M : Nat) (h : Int) (L b : Nat) (W : World) (hb : w.heap.size + 4 ≤ b) (hs : W.heap.size = b + 1) (hB : Below (w.heap.size + 4) (four w M h L) W) : Cst w w.heap.size b M h L 0 W := by
  have hh := four_heap w M h L
  have h0 : W.heap[w.heap.size]? = some (.cells #[.int .i64 M] 3 (0, 0)) := (hB.block _ (by omega)).trans (hh 0 _ rfl)
  have h2 := (hB.block (w.heap.size + 2) (by omega)).trans (hh 2 _ rfl)
  have h3 := (hB.block (w.heap.size + 3) (by omega)).trans (hh 3 _ rfl)
  exact ⟨by simp [World.cell?, h0], by simp [World.cell?, h2], ⟨_, by simp [World.cell?, h3], Ints.nil _ _⟩, frozen_new h3 0, by omega, hb, (four_below _ _ _ _).trans (hB.mono (by omega))⟩
theorem Cst.step {w W : World} {K b M : Nat} {h : Int} {L i : Nat} (hC : Cst w K b M h L i W) (c p : Nat) : Cst w K b M h L i (stepW W b 0 c p) := by
  obtain ⟨hm, hl, ⟨v, hv, hI⟩, hf, hs, hk, hb⟩ := hC
  have hB := stepW_below (B := b) W b 0 c p (Nat.le_refl _)
  refine ⟨(hB.cell (p := ⟨K, 0, none⟩) (by show K < b; omega)).trans hm, (hB.cell (p := ⟨K + 2, 0, none⟩) (by show K + 2 < b; omega)).trans hl, ⟨v, (hB.cell (p := ⟨K + 3, 0, none⟩) (by show K + 3 < b; omega)).trans hv, ?_⟩, (World.frozen?_of_block (a := ⟨K + 3, 0, none⟩) (hB.block (K + 3) (by omega))).trans hf, Nat.le_trans hs hB.size, hk, hb.trans (hB.mono (by omega))⟩
  exact ownsRow_setCell_below (a := ⟨b, 0, none⟩) (ownsRow_setCell_below (a := ⟨b, 0 + 1, none⟩) hI (by show b < b + 1; omega) _) (by show b < b + 1; omega) _

set_option maxRecDepth 100000 in
set_option maxHeartbeats 4000000 in
theorem cells_any {L S : Nat} (hS : Sz L S) (h : Int) (M n : Nat) (hM0 : 1 ≤ M) (hM : M ≤ 3000) (hn : n = min (S + 13) M) (w : World) :
    Calls Try.prog 7 #[.int .i64 h, .int .i64 (L : Int), .int .i64 (M : Int)] w fun e w' => ∃ a cap, e = .returned (.tuple #[.slice a n cap, .bool true]) ∧ SlI w' a n cap (row (uw h) L n) ∧ Below w.heap.size w w' := by
  have hmf : ∀ (fn : Fn) (first cap : Array Value) (w : World), (Instr.makeFunc fn first cap).run Try.prog w = .ok (.func fn first cap) w := fun _ _ _ _ => rfl
  have hfn : ∀ wx fn f1 c, (binOp .eql 32 (.func fn f1 c) .nilFunc).run Try.prog wx = .ok (.bool false) wx := fun _ _ _ _ => by kernel_rfl
  have CA := all_new h (L : Int) (w.alloc (.cells #[.int .i64 (M : Int)] 3))
  rw [show (w.alloc (.cells #[.int .i64 (M : Int)] 3)).heap.size = w.heap.size + 1 by simp] at CA
  have hh := four_heap w M h L 1 _ rfl
  have hh2 := four_heap w M h L 2 _ rfl
  have CS := seq_any hS h 18 #[.pointer (some ⟨w.heap.size + 3, 0, none⟩), .pointer (some ⟨w.heap.size, 0, none⟩)] (w.heap.size + 2) (w.heap.size + 1) (four w M h L)
    (fun b i W => i < M ∧ Cst w w.heap.size b M h L i W) (fun W => M ≤ S + 13 ∧ ∃ b, Cst w w.heap.size b M h L M W) Try.call18 (by simp [World.cell?, hh2]) (by simp [World.cell?, hh])
    (by
      intro b W hb hs hB
      rw [four_size] at hb hB
      exact ⟨hM0, four_cst w M h L b W hb hs hB⟩)
    (fun b i W c p _ _ hJ => ⟨hJ.1, hJ.2.step c p⟩)
    (by
      intro b i W _ _ hi hJ
      refine (cells1_any w W w.heap.size b M h L i hJ.2 hJ.1 hM).mono ?_
      rintro e W' ⟨rfl, hC, hK⟩
      by_cases hlt : i + 1 < M
      · rw [decide_eq_true hlt]
        exact .inl ⟨rfl, ⟨hlt, hC⟩, hK⟩
      · rw [decide_eq_false hlt]
        obtain rfl : M = i + 1 := by have := hJ.1; omega
        exact .inr ⟨rfl, by omega, b, hC⟩)
  replace CS := CS.mono (R' := fun e w' => e = .returned (.tuple #[]) ∧ ∃ b, Cst w w.heap.size b M h L n w') (by
    rintro e W' ⟨rfl, ⟨b, _, h1, h2⟩ | ⟨h1, b, h2⟩⟩
    · rw [hn, show min (S + 13) M = S + 13 by omega]; exact ⟨rfl, b, h2⟩
    · rw [hn, show min (S + 13) M = M by omega]; exact ⟨rfl, b, h2⟩)
  unfold four at CS
  clear hh hh2 hn
  go_enter Try.func7, Try.ntmps7
  go_wp2_with fail
  refine CA.mono ?_
  rintro e w1 ⟨rfl, hw1⟩
  rw [← hw1] at CS
  have hs1 : w1.heap.size = w.heap.size + 3 := by rw [hw1]; simp
  clear CA hw1
  go_wp2_with fail
  refine CS.mono ?_
  rintro e w2 ⟨rfl, b, hC⟩
  obtain ⟨_, _, ⟨v, hv, hI⟩, _, _, _, hb⟩ := hC
  obtain ⟨a, cap, ev, hSl⟩ := hI.sl
  rw [row_len] at ev hSl
  subst ev
  clear CS hI
  go_wp2
  go_ret2
  exact ⟨a, cap, rfl, hSl, hb⟩
set_option maxRecDepth 100000 in
theorem cells_none (l : Int) (hl : ¬ (0 ≤ l ∧ l ≤ 20)) (h m : Int) (w : World) :
    Calls Try.prog 7 #[.int .i64 h, .int .i64 l, .int .i64 m] w fun e w' => e = .returned (.tuple #[.slice none 0 0, .bool true]) ∧ Below w.heap.size w w' := by
  have hmf : ∀ (fn : Fn) (first cap : Array Value) (w : World), (Instr.makeFunc fn first cap).run Try.prog w = .ok (.func fn first cap) w := fun _ _ _ _ => rfl
  have hfn : ∀ wx fn f1 c, (binOp .eql 32 (.func fn f1 c) .nilFunc).run Try.prog wx = .ok (.bool false) wx := fun _ _ _ _ => by kernel_rfl
  have CA := all_new h l (w.alloc (.cells #[.int .i64 m] 3))
  rw [show (w.alloc (.cells #[.int .i64 m] 3)).heap.size = w.heap.size + 1 by simp] at CA
  have h2 := four_heap w m h l 2 _ rfl
  have h3 := four_heap w m h l 3 _ rfl
  have CS := seq_none l hl (.func (.func 18) #[] #[.pointer (some ⟨w.heap.size + 3, 0, none⟩), .pointer (some ⟨w.heap.size, 0, none⟩)]) (w.heap.size + 2) (.pointer (some ⟨w.heap.size + 1, 0, none⟩)) (four w m h l) (by simp [World.cell?, h2])
  have hc : (four w m h l).cell? ⟨w.heap.size + 3, 0, none⟩ = some (.slice none 0 0) := by simp [World.cell?, h3]
  have hb := four_below w m h l
  clear hl h2 h3
  unfold four at CS hc hb
  go_enter Try.func7, Try.ntmps7
  go_wp2_with fail
  refine CA.mono ?_
  rintro e w1 ⟨rfl, hw1⟩
  rw [← hw1] at CS hc hb
  have hs1 : w1.heap.size = w.heap.size + 3 := by rw [hw1]; simp
  clear CA hw1
  go_wp2_with fail
  refine CS.mono ?_
  rintro e w2 ⟨rfl, hw2⟩
  rw [← hw2] at hc hb
  clear CS hw2
  go_wp2
  go_ret2
  exact ⟨rfl, hb⟩
end Go.Proofs.Ytddgkdjpklegnaa.Tr
