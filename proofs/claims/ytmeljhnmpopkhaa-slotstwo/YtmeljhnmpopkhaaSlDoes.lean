/-
  A call on both: does.
-/
import Derived.Test.YtmeljhnmpopkhaaSlRef3
import Derived.Test.YtmeljhnmpopkhaaSlGoes2
namespace Go.Proofs.Ytmeljhnmpopkhaa
open Go.RowKit Go.WideShapes

/-- Slots and the reference's, apart from one another. -/
structure Bo (w : World) (g q : Nat) (ss : List So) (X Y Z : Nat → Prop) : Prop where
  sl : SlV w g ss X
  rq : RqV w q ss Y Z
  xy : ∀ k, X k → ¬ Y k ∧ ¬ Z k
/-- The blocks that a call may turn, and what is new. -/
def Gr (w : World) (X X' : Nat → Prop) : Prop := ∀ k, X' k → X k ∨ w.heap.size ≤ k
theorem SlV.lt {w : World} {g : Nat} {ss : List So} {X : Nat → Prop} (h : SlV w g ss X) : ∀ k, X k → k < w.heap.size := by
  obtain ⟨_, _, _, _, _, _, h⟩ := h
  exact h
theorem RqV.lt {w : World} {q : Nat} {ss : List So} {Y Z : Nat → Prop} (h : RqV w q ss Y Z) : (∀ k, Y k → k < w.heap.size) ∧ (∀ k, Z k → k < w.heap.size) := by
  obtain ⟨_, _, _, _, _, h1, h2, _⟩ := h
  exact ⟨h1, h2⟩
theorem Bo.keep {w w' : World} {g q : Nat} {ss : List So} {X Y Z : Nat → Prop} (h : Bo w g q ss X Y Z) (x : Below w.heap.size w w') : Bo w' g q ss X Y Z :=
  ⟨h.sl.keep (Y := fun _ => False) (ex_of x) (fun _ _ h => h), h.rq.keep (X := fun _ => False) (ex_of x) (fun _ h => h.elim), h.xy⟩
/-- The calls, on the list of slots. -/
def stepS (ss : List So) (k n v : Int) : List So := if k = 1 then addS ss v else if k = 3 then setS ss n v else if k = 4 then freeS ss n else ss
/-- What does leaves. -/
def Dd (w w' : World) (g q : Nat) (ss : List So) (X Y Z : Nat → Prop) : Prop := ∃ X' Y' Z', Bo w' g q ss X' Y' Z' ∧ Gr w X X' ∧ Gr w Y Y' ∧ Gr w Z Z' ∧ Ex (fun k => X k ∨ Y k) w w'
/-- First the slots, then the reference's. -/
theorem dd_of {w V w2 V2 w3 : World} {g q : Nat} {ss ss' : List So} {X X' Y Y' Z Z' : Nat → Prop} (h : Bo V g q ss X Y Z) (hV : Below w.heap.size w V) (hs2 : SlV w2 g ss' X') (hX' : ∀ k, X' k → gX X V w2 k) (ex2 : Ex X V w2) (hB2 : Below w2.heap.size w2 V2) (hZ' : ∀ k, Z' k → Z k ∨ (w.heap.size ≤ k ∧ ¬ gX X V w2 k)) (hY' : ∀ k, Y' k → Y k ∨ V2.heap.size ≤ k) (hr3 : RqV w3 q ss' Y' Z') (ex3 : Ex Y V2 w3) : Dd w w3 g q ss' X Y Z := by
  have hX := h.sl.lt
  obtain ⟨hY, hZ⟩ := h.rq.lt
  have s1 := hV.size
  have s2 := ex2.size
  have s3 := hB2.size
  refine ⟨X', Y', Z', ⟨?_, hr3, fun k hk => ⟨fun hy => ?_, fun hz => ?_⟩⟩, fun k hk => ?_, fun k hk => ?_, fun k hk => ?_, ?_⟩
  · refine (hs2.keep (Y := fun _ => False) (ex_of hB2) (fun _ _ h => h)).keep ex3 (fun k hk hy => ?_)
    rcases hX' k hk with hk | hk
    · exact (h.xy k hk).1 hy
    · have := hY k hy
      omega
  · rcases hX' k hk with hk | hk
    · rcases hY' k hy with hy | hy
      · exact (h.xy k hk).1 hy
      · have := hX k hk
        omega
    · rcases hY' k hy with hy | hy
      · have := hY k hy
        omega
      · omega
  · rcases hZ' k hz with hz | hz
    · rcases hX' k hk with hk | hk
      · exact (h.xy k hk).2 hz
      · have := hZ k hz
        omega
    · exact hz.2 (hX' k hk)
  · rcases hX' k hk with hk | hk
    · exact Or.inl hk
    · exact Or.inr (by omega)
  · rcases hY' k hk with hk | hk
    · exact Or.inl hk
    · exact Or.inr (by omega)
  · rcases hZ' k hk with hk | hk
    · exact Or.inl hk
    · exact Or.inr hk.1
  · have e1 : Ex (fun k => X k ∨ Y k) w V := ex_of hV
    exact ((e1.trans (ex2.mono (fun k _ hk => Or.inl hk))).trans (ex_of hB2)).trans (ex3.mono (fun k _ hk => Or.inr hk))
theorem gX_new {Y : Nat → Prop} {V2 w3 : World} : ∀ k, gX Y V2 w3 k → Y k ∨ V2.heap.size ≤ k := fun k hk => by
  rcases hk with hk | hk
  · exact Or.inl hk
  · exact Or.inr hk.1
theorem Bo.ncell {w w1 : World} {g q : Nat} {ss : List So} {X Y Z : Nat → Prop} (_ : Bo w g q ss X Y Z) {A i : Nat} {v : Value} (hc : w.cell? ⟨A, i, none⟩ = some v) (hA : ¬ X A) (ex : Ex X w w1) : w1.cell? ⟨A, i, none⟩ = some v := (World.cell?_of_block (a := ⟨A, i, none⟩) (ex.block A (lt_of_cell hc) hA)).trans hc
set_option maxRecDepth 100000 in
theorem does_free {w : World} {g q : Nat} {ss : List So} {X Y Z : Nat → Prop} (h : Bo w g q ss X Y Z) (n v : Int) :
    Calls Try.prog 9 #[.pointer (some ⟨g, 0, none⟩), .pointer (some ⟨q, 0, none⟩), .agg #[.int .i64 4, .int .i64 n, .int .i64 v]] w fun e w' => e = .returned (.bool true) ∧ Dd w w' g q (freeS ss n) X Y Z := by
  obtain ⟨w0, hw0⟩ : ∃ y, (w.alloc (.cells #[.int .i64 4, .int .i64 n, .int .i64 v] 38)).drew = y := ⟨_, rfl⟩
  have hb0 : Below w.heap.size w w0 := by rw [← hw0]; exact ((Below.refl _ w).alloc (Nat.le_refl _) _).drew
  have s0 : (w.alloc (.cells #[.int .i64 4, .int .i64 n, .int .i64 v] 38)).drew.cell? ⟨w.heap.size, 1, none⟩ = some (.int .i64 n) := by
    show (w.alloc (.cells #[.int .i64 4, .int .i64 n, .int .i64 v] 38)).cell? ⟨w.heap.size, 1, none⟩ = some (.int .i64 n)
    rw [World.cell?_alloc_at _ _ _ _ rfl]
    rfl
  have s0' : w0.cell? ⟨w.heap.size, 1, none⟩ = some (.int .i64 n) := by rw [← hw0]; exact s0
  have h0 := h.keep hb0
  have hA : ¬ X w.heap.size := fun hx => by have := h.sl.lt _ hx; omega
  have hAY : ¬ Y w.heap.size := fun hx => by have := h.rq.lt.1 _ hx; omega
  have C1 := free_sl h0.sl n
  have C2 := Lib.hid (fun V (hV : RqV V q ss Y Z) => rfree_sl hV n)
  have H0 := Lib.hid h0
  have HB0 := Lib.hid hb0
  have HS0 := Lib.hid s0'
  have HW0 := Lib.hid hw0
  clear h h0 hb0 hw0 s0'
  go_enter Try.func9, Try.ntmps9
  go_upto_region 11 with fail
  go_region_held3 (fun V => V.cell? ⟨w.heap.size, 1, none⟩ = some (.int .i64 n))
    (first | with_reducible exact s0 | with_reducible exact s1 | with_reducible exact s2 | fail)
    (first | (go_at_call 18; rw [HW0.out]; refine C1.mono ?_; rintro e w1 ⟨rfl, hs1, ex1⟩; have s1 := H0.out.ncell HS0.out hA ex1; have hr1 := H0.out.rq.keep ex1 H0.out.xy) | (go_at_call 23; refine (C2.out _ hr1).mono ?_; rintro e w2 ⟨rfl, hr2, ex2⟩; have s2 := (World.cell?_of_block (a := ⟨w.heap.size, 1, none⟩) (ex2.block w.heap.size (lt_of_cell s1) hAY)).trans s1) | fail)
  all_goals
    have HD := Lib.hid (dd_of H0.out HB0.out hs1 (fun _ h => h) ex1 (Below.refl _ w1) (fun _ h => Or.inl h) (fun _ h => Or.inl h) hr2 ex2)
    clear hs1 ex1 hr1 hr2 ex2 s0 s1 s2 C1 C2 HW0
    go_wp2
    go_ret
    exact ⟨by first | rfl | simp, HD.out⟩
end Go.Proofs.Ytmeljhnmpopkhaa
