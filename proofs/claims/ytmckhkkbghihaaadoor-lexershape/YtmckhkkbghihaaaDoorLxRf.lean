/-
  The document's own lexer in memory; tokens, faults.
-/
import Derived.Test.YtmckhkkbghihaaaDoorLxAwake
namespace Go.Proofs.YtmckhkkbghihaaaDoor
open Go.RowKit Go.WideShapes
namespace Lx

/-- Its cells. -/
def fF (sv : Value) (s : St) (dv tv : Value) (fc fa : Nat) : Nat → Value
  | 0 => sv
  | 1 => tv
  | 2 => dv
  | 3 => .int .i64 (s.opn : Int)
  | 4 => .int .i64 (fc : Int)
  | 5 => .int .i64 (fa : Int)
  | _ => .nilFunc
structure Rf (B : Nat) (w : World) (g : Nat) (sv : Value) (s : St) (fc fa : Nat) (dv tv : Value) : Prop where
  lo : B ≤ g
  b : Blk w g 6 (fF sv s dv tv fc fa)
  bo : w.ownsRow B 3 1 dv s.bs.length (bsl s.bs)
  to : w.ownsRow B 30 3 tv s.ts.length (tkl s.ts)
  bg : dv.ownBlock ≠ some g
  tg : tv.ownBlock ≠ some g
  bt : ∀ k, dv.ownBlock = some k → tv.ownBlock ≠ some k
def RfX (B : Nat) (w : World) (g : Nat) (sv : Value) (s : St) (fc fa : Nat) : Prop := ∃ dv tv, Rf B w g sv s fc fa dv tv
theorem Rf.lt {B : Nat} {w : World} {g : Nat} {sv : Value} {s : St} {fc fa : Nat} {dv tv : Value} (h : Rf B w g sv s fc fa dv tv) : g < w.heap.size := h.b.lt (by omega)
theorem Rf.below {B : Nat} {w w' : World} {g : Nat} {sv : Value} {s : St} {fc fa : Nat} {dv tv : Value} (h : Rf B w g sv s fc fa dv tv) (hb : Below w.heap.size w w') : Rf B w' g sv s fc fa dv tv :=
  ⟨h.lo, h.b.same (hb.block g h.lt), ownsS_same h.bo (fun k hk => hb.block k (ownsS_base h.bo k hk).2), ownsS_same h.to (fun k hk => hb.block k (ownsS_base h.to k hk).2), h.bg, h.tg, h.bt⟩
theorem RfX.below {B : Nat} {w w' : World} {g : Nat} {sv : Value} {s : St} {fc fa : Nat} (h : RfX B w g sv s fc fa) (hb : Below w.heap.size w w') : RfX B w' g sv s fc fa := by
  obtain ⟨dv, tv, h⟩ := h
  exact ⟨dv, tv, h.below hb⟩
theorem RfX.lo {B : Nat} {w : World} {g : Nat} {sv : Value} {s : St} {fc fa : Nat} (h : RfX B w g sv s fc fa) : B ≤ w.heap.size := by
  obtain ⟨dv, tv, h⟩ := h
  have := h.lo
  have := h.lt
  omega
/-- Where it stands is not in memory. -/
theorem RfX.at_ {B : Nat} {w : World} {g : Nat} {sv : Value} {s : St} {fc fa : Nat} (h : RfX B w g sv s fc fa) (a : Nat) : RfX B w g sv { s with at_ := a } fc fa := by
  obtain ⟨dv, tv, h⟩ := h
  exact ⟨dv, tv, h.lo, h.b, h.bo, h.to, h.bg, h.tg, h.bt⟩
theorem Rf.opn {B : Nat} {w : World} {g : Nat} {sv : Value} {s : St} {fc fa : Nat} {dv tv : Value} (h : Rf B w g sv s fc fa dv tv) (a : Nat) : Rf B (w.setCell ⟨g, 3, none⟩ (.int .i64 (a : Int))) g sv { s with opn := a } fc fa dv tv :=
  ⟨h.lo, (h.b.put 3 _).congr (fun j hj => by rcases (by omega : j = 0 ∨ j = 1 ∨ j = 2 ∨ j = 3 ∨ j = 4 ∨ j = 5) with rfl | rfl | rfl | rfl | rfl | rfl <;> rfl),
    ownsS_same h.bo (fun k hk => setCell_blk (fun e => h.bg (by rw [hk, e]))), ownsS_same h.to (fun k hk => setCell_blk (fun e => h.tg (by rw [hk, e]))), h.bg, h.tg, h.bt⟩
theorem Rf.flt {B : Nat} {w : World} {g : Nat} {sv : Value} {s : St} {fc fa : Nat} {dv tv : Value} (h : Rf B w g sv s fc fa dv tv) (c a : Nat) : Rf B ((w.setCell ⟨g, 4, none⟩ (.int .i64 (c : Int))).setCell ⟨g, 5, none⟩ (.int .i64 (a : Int))) g sv s c a dv tv :=
  ⟨h.lo, ((h.b.put 4 _).put 5 _).congr (fun j hj => by rcases (by omega : j = 0 ∨ j = 1 ∨ j = 2 ∨ j = 3 ∨ j = 4 ∨ j = 5) with rfl | rfl | rfl | rfl | rfl | rfl <;> rfl),
    ownsS_same (ownsS_same h.bo (fun k hk => setCell_blk (fun e => h.bg (by rw [hk, e])))) (fun k hk => setCell_blk (fun e => h.bg (by rw [hk, e]))), ownsS_same (ownsS_same h.to (fun k hk => setCell_blk (fun e => h.tg (by rw [hk, e])))) (fun k hk => setCell_blk (fun e => h.tg (by rw [hk, e]))), h.bg, h.tg, h.bt⟩
theorem Rf.cut {B : Nat} {w : World} {g gb cap d : Nat} {r : List Nat} {sv : Value} {s : St} {fc fa : Nat} {tv : Value} (hs : s.bs = d :: r) (h : Rf B w g sv s fc fa (.slice (some ⟨gb, 0, none⟩) s.bs.length cap) tv) :
    Rf B (w.setCell ⟨g, 2, none⟩ (.slice (some ⟨gb, 0, none⟩) r.length cap)) g sv { s with bs := r } fc fa (.slice (some ⟨gb, 0, none⟩) r.length cap) tv := by
  have hb := ownsS_cut h.bo r.length (by rw [hs]; simp)
  rw [hs, bsl_take] at hb
  exact ⟨h.lo, (h.b.put 2 _).congr (fun j hj => by rcases (by omega : j = 0 ∨ j = 1 ∨ j = 2 ∨ j = 3 ∨ j = 4 ∨ j = 5) with rfl | rfl | rfl | rfl | rfl | rfl <;> rfl),
    ownsS_same hb (fun k hk => setCell_blk (fun e => h.bg (by injection hk with hk; rw [← e, ← hk]; rfl))), ownsS_same h.to (fun k hk => setCell_blk (fun e => h.tg (by rw [hk, e]))), (fun e => h.bg e), h.tg, (fun k hk => h.bt k hk)⟩
/-- A token more. -/
theorem Rf.tok {B : Nat} {w w5 : World} {g : Nat} {sv : Value} {s : St} {fc fa : Nat} {dv tv tv' : Value} {t : Tok} {o : Obj} (h : Rf B w g sv s fc fa dv tv) (hown : w5.ownsRow B 30 3 tv' (s.ts.length + 1) (tkl s.ts ++ tkC t))
    (hg : (w.alloc o).grownBy w5 tv.ownBlock) (hat : tv'.ownBlock = tv.ownBlock ∨ tv'.ownBlock = some (w.alloc o).heap.size) :
    Rf B (w5.setCell ⟨g, 1, none⟩ tv') g sv { s with ts := s.ts ++ [t] } fc fa dv tv' ∧ Below B w (w5.setCell ⟨g, 1, none⟩ tv') := by
  have hlg := h.lt
  have hsz : (w.alloc o).heap.size = w.heap.size + 1 := by simp
  have hkeep : ∀ k, k < w.heap.size → tv.ownBlock ≠ some k → w5.heap[k]? = w.heap[k]? := fun k hk hn => (hg.block k (by omega) (fun e => hn e.symm)).trans (Below.heap_alloc _ _ _ hk)
  have hne : tv'.ownBlock ≠ some g := by
    rcases hat with e | e
    · rw [e]; exact h.tg
    · rw [e, hsz]; intro e; injection e with e; omega
  have hbk : ∀ k, dv.ownBlock = some k → w5.heap[k]? = w.heap[k]? := fun k hk => hkeep k (ownsS_base h.bo k hk).2 (h.bt k hk)
  refine ⟨⟨h.lo, ((h.b.same (hkeep g hlg h.tg)).put 1 _).congr (fun j hj => by rcases (by omega : j = 0 ∨ j = 1 ∨ j = 2 ∨ j = 3 ∨ j = 4 ∨ j = 5) with rfl | rfl | rfl | rfl | rfl | rfl <;> rfl), ?_, ?_, h.bg, hne, fun k hk => ?_⟩, ?_⟩
  · exact ownsS_same (ownsS_same h.bo hbk) (fun k hk => setCell_blk (fun e => h.bg (by rw [hk, e])))
  · have h1 : w5.ownsRow B 30 3 tv' (s.ts ++ [t]).length (tkl (s.ts ++ [t])) := by rw [tkl_app, List.length_append]; exact hown
    exact ownsS_same h1 (fun k hk => setCell_blk (fun e => hne (by rw [hk, e])))
  · rcases hat with e | e
    · rw [e]; exact h.bt k hk
    · rw [e, hsz]
      intro e
      injection e with e
      have := (ownsS_base h.bo k hk).2
      omega
  · refine Below.setCell (p := ⟨g, 1, none⟩) ?_ h.lo _
    refine Below.grown (w := w.alloc o) (Below.alloc (Below.refl _ _) (Nat.le_trans h.lo (Nat.le_of_lt hlg)) _) hg (by rw [hsz]; have := h.lo; omega) (fun k hk => (ownsS_base h.to k hk).1)
/-- A block more. -/
theorem Rf.blk {B : Nat} {w w5 : World} {g d : Nat} {sv : Value} {s : St} {fc fa : Nat} {dv dv' tv : Value} {o : Obj} (h : Rf B w g sv s fc fa dv tv) (hown : w5.ownsRow B 3 1 dv' (s.bs.length + 1) (bsl s.bs ++ [.int .i64 (d : Int)]))
    (hg : (w.alloc o).grownBy w5 dv.ownBlock) (hat : dv'.ownBlock = dv.ownBlock ∨ dv'.ownBlock = some (w.alloc o).heap.size) :
    Rf B (w5.setCell ⟨g, 2, none⟩ dv') g sv { s with bs := d :: s.bs } fc fa dv' tv ∧ Below B w (w5.setCell ⟨g, 2, none⟩ dv') := by
  have hlg := h.lt
  have hsz : (w.alloc o).heap.size = w.heap.size + 1 := by simp
  have hkeep : ∀ k, k < w.heap.size → dv.ownBlock ≠ some k → w5.heap[k]? = w.heap[k]? := fun k hk hn => (hg.block k (by omega) (fun e => hn e.symm)).trans (Below.heap_alloc _ _ _ hk)
  have hne : dv'.ownBlock ≠ some g := by
    rcases hat with e | e
    · rw [e]; exact h.bg
    · rw [e, hsz]; intro e; injection e with e; omega
  have hbk : ∀ k, tv.ownBlock = some k → w5.heap[k]? = w.heap[k]? := fun k hk => hkeep k (ownsS_base h.to k hk).2 (fun e => h.bt k e hk)
  refine ⟨⟨h.lo, ((h.b.same (hkeep g hlg h.bg)).put 2 _).congr (fun j hj => by rcases (by omega : j = 0 ∨ j = 1 ∨ j = 2 ∨ j = 3 ∨ j = 4 ∨ j = 5) with rfl | rfl | rfl | rfl | rfl | rfl <;> rfl), ?_, ?_, hne, h.tg, fun k hk e => ?_⟩, ?_⟩
  · have h1 : w5.ownsRow B 3 1 dv' (d :: s.bs).length (bsl (d :: s.bs)) := by rw [bsl_cons, List.length_cons]; exact hown
    exact ownsS_same h1 (fun k hk => setCell_blk (fun e => hne (by rw [hk, e])))
  · exact ownsS_same (ownsS_same h.to hbk) (fun k hk => setCell_blk (fun e => h.tg (by rw [hk, e])))
  · rcases hat with e' | e'
    · rw [e'] at hk; exact h.bt k hk e
    · rw [e', hsz] at hk
      injection hk with hk
      have := (ownsS_base h.to k e).2
      omega
  · refine Below.setCell (p := ⟨g, 2, none⟩) ?_ h.lo _
    refine Below.grown (w := w.alloc o) (Below.alloc (Below.refl _ _) (Nat.le_trans h.lo (Nat.le_of_lt hlg)) _) hg (by rw [hsz]; have := h.lo; omega) (fun k hk => (ownsS_base h.bo k hk).1)
/-- May it begin a name? -/
def isL (c : UInt8) : Bool := decide (97 ≤ c.toNat ∧ c.toNat ≤ 122) || decide (65 ≤ c.toNat ∧ c.toNat ≤ 90) || decide (c.toNat = 95)
theorem isP_eq (c : UInt8) : isP c = (isL c || isD c) := rfl
end Lx
end Go.Proofs.YtmckhkkbghihaaaDoor
