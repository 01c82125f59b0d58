/-
  What is left as it was; the counts; index.
-/
import Derived.Test.YtejfmajbggmghaaGreatTfMem
namespace Go.Proofs.YtejfmajbggmghaaGreat
open Go.RowKit Go.WideShapes

/-- What is counted, where there are counts. -/
def four4 (a b c d : Int) : Nat → Value
  | 0 => .int .i64 a
  | 1 => .int .i64 b
  | 2 => .int .i64 c
  | _ => .int .i64 d
def Ms (w : World) (mv : Value) (a b c d : Int) : Prop := mv = .pointer none ∨ ∃ m, mv = .pointer (some ⟨m, 0, none⟩) ∧ Blk w m 4 (four4 a b c d)
theorem Ms.same {w w' : World} {mv : Value} {a b c d : Int} (h : Ms w mv a b c d) (e : ∀ k, mB mv k → w'.heap[k]? = w.heap[k]?) : Ms w' mv a b c d := by
  rcases h with h | ⟨m, h1, h2⟩
  · exact .inl h
  · exact .inr ⟨m, h1, h2.same (e m h1)⟩
theorem Ms.lt {w : World} {mv : Value} {a b c d : Int} (h : Ms w mv a b c d) : ∀ k, mB mv k → k < w.heap.size := by
  intro k hk
  rcases h with h | ⟨m, h1, h2⟩
  · rw [mB, h] at hk; cases hk
  · rw [mB, h1] at hk
    cases hk
    exact h2.lt (by omega)
theorem Ms.below {w w' : World} {mv : Value} {a b c d : Int} (h : Ms w mv a b c d) (hb : Below w.heap.size w w') : Ms w' mv a b c d := h.same fun k hk => hb.block k (h.lt k hk)
/-- The head of a table, its cells turned. -/
def setI (F : Nat → Value) (L q made : Nat) : Nat → Value
  | 1 => .int .i64 (L : Int)
  | 2 => .slice (some ⟨q, 0, none⟩) (2 ^ L) (2 ^ L)
  | 5 => .int .i64 ((made : Int) + 1)
  | j => F j
set_option maxRecDepth 100000 in
set_option maxHeartbeats 4000000 in
theorem rindex_any {w : World} {g L made : Nat} {F : Nat → Value} {mv : Value} {a b c d : Int} (hS : Sz L (2 ^ L)) (hB : Blk w g 8 F) (h5 : F 5 = .int .i64 (made : Int)) (h7 : F 7 = mv) (hM : Ms w mv a b c d) (hg : ∀ k, mB mv k → k ≠ g) (hm : made ≤ 1000000) (ha : 0 ≤ a ∧ a ≤ 1000000000) :
    Calls Tryz.prog 31 #[.pointer (some ⟨g, 0, none⟩), .int .i64 (L : Int)] w fun e w' => e = .returned (.tuple #[]) ∧ ∃ q, w.heap.size ≤ q ∧ Blk w' g 8 (setI F L q made) ∧ Rf w' q (2 ^ L) (fun _ => -1) ∧ Ms w' mv (a + 1) b c d ∧ Ex (fun k => k = g ∨ mB mv k) w w' := by
  have C1 := rnew_any hS w
  have hge := hB.lt (by omega)
  have hlm := hM.lt
  generalize hSS : 2 ^ L = S at *
  go_enter Tryz.func31, Tryz.ntmps31
  go_wp2_with fail
  refine C1.mono ?_
  rintro e w1 ⟨q, rfl, hq, hR, hb1⟩
  clear C1
  have hB1 := hB.same (hb1.block g hge)
  have f1 := hB1.c 1 (by omega)
  have f2 := hB1.c 2 (by omega)
  have f5 := hB1.c 5 (by omega)
  have z1 := hB1.z 1
  have z2 := hB1.z 2
  have z5 := hB1.z 5
  rw [h5] at f5
  have hM1 := hM.below hb1
  have e1 : IntKind.i64.wrap ((made : Int) + 1) = (made : Int) + 1 := i64_small (by omega) (by omega)
  have e2 : IntKind.i64.wrap (a + 1) = a + 1 := i64_small (by omega) (by omega)
  have hB2 := (((hB1.put 1 (.int .i64 (L : Int))).put 2 (.slice (some ⟨q, 0, none⟩) S S)).put 5 (.int .i64 ((made : Int) + 1))).congr (F' := setI F L q made) (fun j hj => by
    subst hSS
    have : j = 0 ∨ j = 1 ∨ j = 2 ∨ j = 3 ∨ j = 4 ∨ j = 5 ∨ j = 6 ∨ j = 7 := by omega
    rcases this with rfl | rfl | rfl | rfl | rfl | rfl | rfl | rfl <;> rfl)
  have hX2 : Ex (fun k => k = g ∨ mB mv k) w (((w1.setCell ⟨g, 1, none⟩ (.int .i64 (L : Int))).setCell ⟨g, 2, none⟩ (.slice (some ⟨q, 0, none⟩) S S)).setCell ⟨g, 5, none⟩ (.int .i64 ((made : Int) + 1))) :=
    (((ex_of hb1).setCell (p := ⟨g, 1, none⟩) (fun _ => .inl rfl) _).setCell (p := ⟨g, 2, none⟩) (fun _ => .inl rfl) _).setCell (p := ⟨g, 5, none⟩) (fun _ => .inl rfl) _
  have hk : ∀ k, k ≠ g → (((w1.setCell ⟨g, 1, none⟩ (.int .i64 (L : Int))).setCell ⟨g, 2, none⟩ (.slice (some ⟨q, 0, none⟩) S S)).setCell ⟨g, 5, none⟩ (.int .i64 ((made : Int) + 1))).heap[k]? = w1.heap[k]? := fun k hk => by
    rw [Below.heap_setCell _ _ _ _ hk, Below.heap_setCell _ _ _ _ hk, Below.heap_setCell _ _ _ _ hk]
  have hR2 := hR.same (hk q (by omega))
  have hM2 := hM1.same fun k hm => hk k (hg k hm)
  have HB2 := Lib.hid hB2
  have HX2 := Lib.hid hX2
  have HR2 := Lib.hid hR2
  clear hB2 hX2 hk hR2 hR hM1 hB1 hB hM
  unfold rv
  go_upto_region 2 with fail
  generalize World.setCell (World.setCell (World.setCell _ _ _) _ _) _ _ = w2 at HB2 HX2 HR2 hM2 ⊢
  clear f1 f2 f5 z1 z2 z5 hb1
  have f7 : w2.cell? ⟨g, 7, none⟩ = some mv := by rw [← h7]; exact HB2.out.c 7 (by omega)
  rcases hM2 with rfl | ⟨m, rfl, hMb⟩
  · go_wp2
    go_end0
    exact ⟨rfl, q, hq, HB2.out, HR2.out, .inl rfl, HX2.out⟩
  · have c0 : w2.cell? ⟨m, 0, none⟩ = some (.int .i64 a) := hMb.c 0 (by omega)
    have z0 := hMb.z 0
    have hmg : m ≠ g := hg m rfl
    have hmq : m ≠ q := by have := hlm m rfl; omega
    have HM3 : Hid (Blk (w2.setCell ⟨m, 0, none⟩ (.int .i64 (a + 1))) m 4 (four4 (a + 1) b c d)) := (hMb.put 0 _).congr (fun j hj => by
      have : j = 0 ∨ j = 1 ∨ j = 2 ∨ j = 3 := by omega
      rcases this with rfl | rfl | rfl | rfl <;> rfl)
    have HB3 := Lib.hid (HB2.out.same (w' := w2.setCell ⟨m, 0, none⟩ (.int .i64 (a + 1))) (Below.heap_setCell _ _ _ _ (fun e => hmg e.symm)))
    have HR3 := Lib.hid (HR2.out.same (w' := w2.setCell ⟨m, 0, none⟩ (.int .i64 (a + 1))) (Below.heap_setCell _ _ _ _ (fun e => hmq e.symm)))
    have HX3 := Lib.hid (HX2.out.setCell (p := ⟨m, 0, none⟩) (fun _ => .inr rfl) (.int .i64 (a + 1)))
    clear hMb
    go_wp2
    go_end0
    exact ⟨rfl, q, hq, HB3.out, HR3.out, .inr ⟨m, rfl, HM3.out⟩, HX3.out⟩
end Go.Proofs.YtejfmajbggmghaaGreat
