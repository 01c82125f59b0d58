/-
  What All's iterator does when a law goes through it.
-/
import Derived.Test.YtajbieokcdejgaaCeEach
import Derived.Test.YtajbieokcdejgaaCeMeth
namespace Go.Proofs.Ytajbieokcdejgaa
open Go.RowKit Go.WideShapes

/-- What goes keeps, in five blocks from B on: the list, where to stop, the count, whether all was right, whether it is over. -/
structure Gst (w : World) (B : Nat) (a : Option Addr) (L cap : Nat) (stop k : Int) (ok over : Bool) : Prop where
  l : w.cell? ⟨B, 0, none⟩ = some (.slice a L cap)
  s : w.cell? ⟨B + 1, 0, none⟩ = some (.int .i64 stop)
  n : w.cell? ⟨B + 2, 0, none⟩ = some (.int .i64 k)
  o : w.cell? ⟨B + 3, 0, none⟩ = some (.bool ok)
  v : w.cell? ⟨B + 4, 0, none⟩ = some (.bool over)
  fn : w.frozen? ⟨B + 2, 0, none⟩ = false
  fo : w.frozen? ⟨B + 3, 0, none⟩ = false
  fv : w.frozen? ⟨B + 4, 0, none⟩ = false

set_option maxHeartbeats 8000000 in
set_option maxRecDepth 100000 in
theorem goes1_any (w : World) (B q cap : Nat) (L k : Nat) (stop x : Int) (b : Bool) (hb : ((k : Int) + 1 == stop) = b) (hG : Gst w B (some ⟨q, 0, none⟩) L cap stop (k : Int) true false) (hk : k < L) (hL : L ≤ 1048576) (hc : w.cell? ⟨q, k, none⟩ = some (.int .i64 x)) :
    Calls Try.prog 34 #[.int .i64 (k : Int), .int .i64 x, .pointer (some ⟨B + 3, 0, none⟩), .pointer (some ⟨B + 4, 0, none⟩), .pointer (some ⟨B + 2, 0, none⟩), .pointer (some ⟨B, 0, none⟩), .pointer (some ⟨B + 1, 0, none⟩)] w fun e w' =>
      e = .returned (.bool !b) ∧ Gst w' B (some ⟨q, 0, none⟩) L cap stop ((k : Int) + 1) true b ∧ Below B w w' := by
  obtain ⟨h1, h2, h3, h4, h5, f1, f2, f3⟩ := hG
  have ilt : (k : Int) < (L : Int) := by omega
  have ik : (k : Int) ≤ 1048576 := by omega
  have hxx : (x == x) = true := by simp
  have HW : Hid (Gst (((w.setCell ⟨B + 3, 0, none⟩ (.bool true)).setCell ⟨B + 2, 0, none⟩ (.int .i64 ((k : Int) + 1))).setCell ⟨B + 4, 0, none⟩ (.bool b)) B (some ⟨q, 0, none⟩) L cap stop ((k : Int) + 1) true b) := by
    have ne : ∀ (i j : Nat), i ≠ j → (⟨i, 0, none⟩ : Addr) ≠ ⟨j, 0, none⟩ := fun i j h e => by injection e with e1; exact h e1
    refine ⟨?_, ?_, ?_, ?_, ?_, ?_, ?_, ?_⟩
    · rw [World.cell?_setCell_other _ _ _ _ (ne _ _ (by omega)), World.cell?_setCell_other _ _ _ _ (ne _ _ (by omega)), World.cell?_setCell_other _ _ _ _ (ne _ _ (by omega))]; exact h1
    · rw [World.cell?_setCell_other _ _ _ _ (ne _ _ (by omega)), World.cell?_setCell_other _ _ _ _ (ne _ _ (by omega)), World.cell?_setCell_other _ _ _ _ (ne _ _ (by omega))]; exact h2
    · rw [World.cell?_setCell_other _ _ _ _ (ne _ _ (by omega))]
      refine World.cell?_setCell_same' _ _ _ ?_
      rw [World.cell?_setCell_other _ _ _ _ (ne _ _ (by omega)), h3]
      rfl
    · rw [World.cell?_setCell_other _ _ _ _ (ne _ _ (by omega)), World.cell?_setCell_other _ _ _ _ (ne _ _ (by omega))]
      refine World.cell?_setCell_same' _ _ _ ?_
      rw [h4]
      rfl
    · refine World.cell?_setCell_same' _ _ _ ?_
      rw [World.cell?_setCell_other _ _ _ _ (ne _ _ (by omega)), World.cell?_setCell_other _ _ _ _ (ne _ _ (by omega)), h5]
      rfl
    · rw [World.frozen?_setCell, World.frozen?_setCell, World.frozen?_setCell]; exact f1
    · rw [World.frozen?_setCell, World.frozen?_setCell, World.frozen?_setCell]; exact f2
    · rw [World.frozen?_setCell, World.frozen?_setCell, World.frozen?_setCell]; exact f3
  go_enter Try.func34, Try.ntmps34
  go_wp2
  go_ret
  exact ⟨rfl, HW.out, (((Below.refl B w).setCell (p := ⟨B + 3, 0, none⟩) (by show B ≤ B + 3; omega) _).setCell (p := ⟨B + 2, 0, none⟩) (by show B ≤ B + 2; omega) _).setCell (p := ⟨B + 4, 0, none⟩) (by show B ≤ B + 4; omega) _⟩

/-- The five blocks that goes lays. -/
def five (w : World) (a : Option Addr) (L cap : Nat) (stop : Int) : World :=
  ((((w.alloc (.cells #[.slice a L cap] 28)).alloc (.cells #[.int .i64 stop] 3)).alloc (.cells #[.int .i64 0] 3)).alloc (.cells #[.bool true] 4)).alloc (.cells #[.bool false] 4)
theorem five_below (w : World) (a : Option Addr) (L cap : Nat) (stop : Int) : Below w.heap.size w (five w a L cap stop) :=
  (((((Below.refl _ w).alloc (Nat.le_refl _) _).alloc (by simp) _).alloc (by simp; omega) _).alloc (by simp; omega) _).alloc (by simp; omega) _
theorem five_heap (w : World) (a : Option Addr) (L cap : Nat) (stop : Int) : ∀ j o, [Obj.cells #[.slice a L cap] 28 (0, 0), .cells #[.int .i64 stop] 3 (0, 0), .cells #[.int .i64 0] 3 (0, 0), .cells #[.bool true] 4 (0, 0), .cells #[.bool false] 4 (0, 0)][j]? = some o → (five w a L cap stop).heap[w.heap.size + j]? = some o := by
  have key : ∀ (w : World) (o : Obj) (k : Nat), k < w.heap.size → (w.alloc o).heap[k]? = w.heap[k]? := fun w o k h => (World.grownBy_alloc w o none).block k h (by simp)
  have new : ∀ (w : World) (o : Obj) (k : Nat), k = w.heap.size → (w.alloc o).heap[k]? = some o := fun w o k h => by subst h; exact heap_alloc_new w o
  intro j o h
  unfold five
  match j, h with
  | 0, h => rw [key _ _ _ (by simp <;> omega), key _ _ _ (by simp <;> omega), key _ _ _ (by simp <;> omega), key _ _ _ (by simp), new _ _ _ (by simp)]; simpa using h
  | 1, h => rw [key _ _ _ (by simp <;> omega), key _ _ _ (by simp <;> omega), key _ _ _ (by simp), new _ _ _ (by simp)]; simpa using h
  | 2, h => rw [key _ _ _ (by simp <;> omega), key _ _ _ (by simp), new _ _ _ (by simp)]; simpa using h
  | 3, h => rw [key _ _ _ (by simp), new _ _ _ (by simp)]; simpa using h
  | 4, h => rw [new _ _ _ (by simp)]; simpa using h
  | j + 5, h => simp at h
theorem frozen_new {w : World} {k : Nat} {xs : Array Value} {t : TypeId} (h : w.heap[k]? = some (.cells xs t (0, 0))) (j : Nat) : w.frozen? ⟨k, j, none⟩ = false := by
  simp [World.frozen?, h]
theorem five_gst (w : World) (a : Option Addr) (L cap : Nat) (stop : Int) : Gst (five w a L cap stop) w.heap.size a L cap stop 0 true false := by
  have h := five_heap w a L cap stop
  have h0 : (five w a L cap stop).heap[w.heap.size]? = some (.cells #[.slice a L cap] 28 (0, 0)) := h 0 _ rfl
  have h1 := h 1 _ rfl
  have h2 := h 2 _ rfl
  have h3 := h 3 _ rfl
  have h4 := h 4 _ rfl
  exact ⟨by simp [World.cell?, h0], by simp [World.cell?, h1], by simp [World.cell?, h2], by simp [World.cell?, h3], by simp [World.cell?, h4], frozen_new h2 0, frozen_new h3 0, frozen_new h4 0⟩
/-- When it is over: all was right, so many were gone through. -/
theorem goes_tail (w w2 : World) (a : Option Addr) (S cap n : Nat) (stop : Int) (over : Bool) (hG : Gst w2 w.heap.size a S cap stop (n : Int) true over) (hn : (n : Int) = stop ∧ 0 < stop ∨ n = S) :
    (w2.cell? ⟨w.heap.size, 0, none⟩ = some (.slice a S cap) ∧ w2.cell? ⟨w.heap.size + 1, 0, none⟩ = some (.int .i64 stop) ∧ w2.cell? ⟨w.heap.size + 2, 0, none⟩ = some (.int .i64 (n : Int)) ∧ w2.cell? ⟨w.heap.size + 3, 0, none⟩ = some (.bool true)) ∧
    ((((n : Int) == stop) = true ∧ 0 < stop) ∨ (((n : Int) == stop) = true ∧ ¬ 0 < stop ∧ ((n : Int) == ((S : Nat) : Int)) = true) ∨ (((n : Int) == stop) = false ∧ ((n : Int) == ((S : Nat) : Int)) = true)) := by
  refine ⟨⟨hG.l, hG.s, hG.n, hG.o⟩, ?_⟩
  by_cases h : (n : Int) = stop
  · by_cases h2 : 0 < stop
    · left; exact ⟨beq_iff_eq.2 h, h2⟩
    · right; left; exact ⟨beq_iff_eq.2 h, h2, beq_iff_eq.2 (by omega)⟩
  · right; right; exact ⟨beq_eq_false_iff_ne.2 h, beq_iff_eq.2 (by omega)⟩

set_option maxHeartbeats 8000000 in
set_option maxRecDepth 100000 in
theorem goes_any {w : World} {r h W S cap' L : Nat} {f : Nat → Int} (hR : Rw w r h (kd L) W S cap' f) (hS : S ≤ 1048576) (hS0 : 0 < S) (hf : ∀ i, i < S → -2147483648 ≤ f i ∧ f i < 2147483648)
    (q cap : Nat) (hq : ∀ j, j < S → w.cell? ⟨q, j, none⟩ = some (.int .i64 (f j))) (stop : Int) :
    Calls Try.prog 17 #[itv L r, .slice (some ⟨q, 0, none⟩) S cap, .int .i64 stop] w fun e w' => e = .returned (.bool true) ∧ Below w.heap.size w w' := by
  have hmf : ∀ (fn : Fn) (first cap : Array Value) (w : World), (Instr.makeFunc fn first cap).run Try.prog w = .ok (.func fn first cap) w := fun _ _ _ _ => rfl
  have hb5 := five_below w (some ⟨q, 0, none⟩) S cap stop
  have hlt := hR.lt hS0
  have lq := lt_of_cell (hq 0 hS0)
  have c := row_each (hR.below hS0 hb5) 34 #[.pointer (some ⟨w.heap.size + 3, 0, none⟩), .pointer (some ⟨w.heap.size + 4, 0, none⟩), .pointer (some ⟨w.heap.size + 2, 0, none⟩), .pointer (some ⟨w.heap.size, 0, none⟩), .pointer (some ⟨w.heap.size + 1, 0, none⟩)]
    (fun i W => Gst W w.heap.size (some ⟨q, 0, none⟩) S cap stop (i : Int) true false ∧ (stop < 1 ∨ (i : Int) < stop) ∧ Below w.heap.size w W)
    (fun W => ∃ n : Nat, Gst W w.heap.size (some ⟨q, 0, none⟩) S cap stop (n : Int) true true ∧ (n : Int) = stop ∧ 0 < stop ∧ Below w.heap.size w W)
    Try.call34 hS hf ⟨five_gst w _ S cap stop, by simp; omega, hb5⟩
    (fun i W hJ j hj => (hJ.2.2.cell (p := ⟨h, j, none⟩) hlt.2).trans (hR.hc j hj))
    (by
      intro i W hi hJ
      obtain ⟨hG, hst, hbw⟩ := hJ
      refine (goes1_any W w.heap.size q cap S i stop (f i) _ rfl hG hi hS ((hbw.cell (p := ⟨q, i, none⟩) lq).trans (hq i hi))).mono ?_
      rintro e W' ⟨rfl, hG', hb'⟩
      have hbb := hbw.trans hb'
      by_cases hs : (i : Int) + 1 = stop
      · rw [show ((i : Int) + 1 == stop) = true by simp [hs]] at hG' ⊢
        exact .inr ⟨rfl, i + 1, by simpa using hG', by omega, by omega, hbb⟩
      · rw [show ((i : Int) + 1 == stop) = false by simp [hs]] at hG' ⊢
        exact .inl ⟨rfl, by simpa using hG', by omega, hbb⟩)
  replace c := c.mono (R' := fun e w' => e = .returned (.tuple #[]) ∧ ∃ (n : Nat) (over : Bool), Gst w' w.heap.size (some ⟨q, 0, none⟩) S cap stop (n : Int) true over ∧ ((n : Int) = stop ∧ 0 < stop ∨ n = S) ∧ Below w.heap.size w w') (by
    rintro e W' ⟨rfl, ⟨h1, _, h3⟩ | ⟨n, h1, h2, h3, h4⟩⟩
    · exact ⟨rfl, S, false, h1, .inr rfl, h3⟩
    · exact ⟨rfl, n, true, h1, .inl ⟨h2, h3⟩, h4⟩)
  have hm := fun w => m_each L (some ⟨r, 0, none⟩) w
  have he := e_each L
  unfold five at c
  unfold itv
  clear hR hf hq hb5 hlt lq
  generalize eachF L = Y at *
  generalize rty L = T at *
  go_enter Try.func17, Try.ntmps17
  go_wp2_with fail
  refine c.mono ?_
  rintro e w2 ⟨rfl, n, over, hG, hn, hbw⟩
  obtain ⟨⟨g1, g2, g3, g4⟩, hcase⟩ := goes_tail w w2 _ S cap n stop over hG hn
  clear c hn hG
  rcases hcase with ⟨c1, c2⟩ | ⟨c1, c2, c3⟩ | ⟨c1, c2⟩
  all_goals
    go_wp2
    go_ret
    exact ⟨rfl, hbw⟩
set_option maxRecDepth 100000 in
theorem goes_none (w : World) :
    Calls Try.prog 17 #[.func (.func 33) #[] #[], .slice none 0 0, .int .i64 0] w fun e w' => e = .returned (.bool true) ∧ Below w.heap.size w w' := by
  have hmf : ∀ (fn : Fn) (first cap : Array Value) (w : World), (Instr.makeFunc fn first cap).run Try.prog w = .ok (.func fn first cap) w := fun _ _ _ _ => rfl
  have hb5 := five_below w none 0 0 0
  have hG := five_gst w none 0 0 0
  have C : ∀ v w, Calls Try.prog 33 #[v] w fun e w' => e = .returned (.tuple #[]) ∧ w' = w := by
    intro v w
    go_enter Try.func33, Try.ntmps33
    go_wp2
    go_end0
    exact ⟨rfl, rfl⟩
  obtain ⟨⟨g1, g2, g3, g4⟩, _⟩ := goes_tail w _ _ 0 0 0 0 _ hG (.inr rfl)
  clear hG
  unfold five at hb5 g1 g2 g3 g4
  have HB := Lib.hid hb5
  clear hb5
  go_enter Try.func17, Try.ntmps17
  go_wp2_with fail
  refine (C _ _).mono ?_
  rintro e w2 ⟨rfl, rfl⟩
  go_wp2
  go_ret
  exact ⟨rfl, HB.out⟩
end Go.Proofs.Ytajbieokcdejgaa
