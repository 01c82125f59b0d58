/-
  The document's own lexer in memory; tokens, faults.
-/
import Derived.Test.YtkppnncpejohgaaDoorLxAwake
namespace Go.Proofs.YtkppnncpejohgaaDoor
open Go.RowKit Go.WideShapes
namespace Lx

/-- Its cells. -/
def fF (sv : Value) (s : St) (dv tv : Value) (fc fa : Nat) : Nat → Value
  | 0 => sv
  | 1 => tv
  | 2 => dv
  | 3 => .int .i64 (s.opn : Int)
  | 4 => .int .i64 (fc : Int)
  | 5 => .int .i64 (fa : Int)
  | _ => .nilFunc
structure Rf (B : Nat) (w : World) (g : Nat) (sv : Value) (s : St) (fc fa : Nat) (dv tv : Value) : Prop where
  lo : B ≤ g
  b : Blk w g 6 (fF sv s dv tv fc fa)
  bo : w.ownsRow B 3 1 dv s.bs.length (bsl s.bs)
  to : w.ownsRow B 35 3 tv s.ts.length (tkl s.ts)
  bg : dv.ownBlock ≠ some g
  tg : tv.ownBlock ≠ some g
  bt : ∀ k, dv.ownBlock = some k → tv.ownBlock ≠ some k
def RfX (B : Nat) (w : World) (g : Nat) (sv : Value) (s : St) (fc fa : Nat) : Prop := ∃ dv tv, Rf B w g sv s fc fa dv tv
theorem Rf.lt {B : Nat} {w : World} {g : Nat} {sv : Value} {s : St} {fc fa : Nat} {dv tv : Value} (h : Rf B w g sv s fc fa dv tv) : g < w.heap.size := h.b.lt (by omega)
theorem Rf.below {B : Nat} {w w' : World} {g : Nat} {sv : Value} {s : St} {fc fa : Nat} {dv tv : Value} (h : Rf B w g sv s fc fa dv tv) (hb : Below w.heap.size w w') : Rf B w' g sv s fc fa dv tv :=
  ⟨h.lo, h.b.same (hb.block g h.lt), ownsS_same h.bo (fun k hk => hb.block k (ownsS_base h.bo k hk).2), ownsS_same h.to (fun k hk => hb.block k (ownsS_base h.to k hk).2), h.bg, h.tg, h.bt⟩
theorem RfX.below {B : Nat} {w w' : World} {g : Nat} {sv : Value} {s : St} {fc fa : Nat} (h : RfX B w g sv s fc fa) (hb : Below w.heap.size w w') : RfX B w' g sv s fc fa := by
  obtain ⟨dv, tv, h⟩ := h
  exact ⟨dv, tv, h.below hb⟩
theorem RfX.lo {B : Nat} {w : World} {g : Nat} {sv : Value} {s : St} {fc fa : Nat} (h : RfX B w g sv s fc fa) : B ≤ w.heap.size := by
  obtain ⟨dv, tv, h⟩ := h
  have := h.lo
  have := h.lt
  omega
/-- Where it stands is not in memory. -/
theorem RfX.at_ {B : Nat} {w : World} {g : Nat} {sv : Value} {s : St} {fc fa : Nat} (h : RfX B w g sv s fc fa) (a : Nat) : RfX B w g sv { s with at_ := a } fc fa := by
  obtain ⟨dv, tv, h⟩ := h
  exact ⟨dv, tv, h.lo, h.b, h.bo, h.to, h.bg, h.tg, h.bt⟩
theorem Rf.opn {B : Nat} {w : World} {g : Nat} {sv : Value} {s : St} {fc fa : Nat} {dv tv : Value} (h : Rf B w g sv s fc fa dv tv) (a : Nat) : Rf B (w.setCell ⟨g, 3, none⟩ (.int .i64 (a : Int))) g sv { s with opn := a } fc fa dv tv :=
  ⟨h.lo, (h.b.put 3 _).congr (fun j hj => by rcases (by omega : j = 0 ∨ j = 1 ∨ j = 2 ∨ j = 3 ∨ j = 4 ∨ j = 5) with rfl | rfl | rfl | rfl | rfl | rfl <;> rfl),
    ownsS_same h.bo (fun k hk => setCell_blk (fun e => h.bg (by rw [hk, e]))), ownsS_same h.to (fun k hk => setCell_blk (fun e => h.tg (by rw [hk, e]))), h.bg, h.tg, h.bt⟩
theorem Rf.flt {B : Nat} {w : World} {g : Nat} {sv : Value} {s : St} {fc fa : Nat} {dv tv : Value} (h : Rf B w g sv s fc fa dv tv) (c a : Nat) : Rf B ((w.setCell ⟨g, 4, none⟩ (.int .i64 (c : Int))).setCell ⟨g, 5, none⟩ (.int .i64 (a : Int))) g sv s c a dv tv :=
  ⟨h.lo, ((h.b.put 4 _).put 5 _).congr (fun j hj => by rcases (by omega : j = 0 ∨ j = 1 ∨ j = 2 ∨ j = 3 ∨ j = 4 ∨ j = 5) with rfl | rfl | rfl | rfl | rfl | rfl <;> rfl),
    ownsS_same (ownsS_same h.bo (fun k hk => setCell_blk (fun e => h.bg (by rw [hk, e])))) (fun k hk => setCell_blk (fun e => h.bg (by rw [hk, e]))), ownsS_same (ownsS_same h.to (fun k hk => setCell_blk (fun e => h.tg (by rw [hk, e])))) (fun k hk => setCell_blk (fun e => h.tg (by rw [hk, e]))), h.bg, h.tg, h.bt⟩
theorem Rf.cut {B : Nat} {w : World} {g gb cap d : Nat} {r : List Nat} {sv : Value} {s : St} {fc fa : Nat} {tv : Value} (hs : s.bs = d :: r) (h : Rf B w g sv s fc fa (.slice (some ⟨gb, 0, none⟩) s.bs.length cap) tv) :
    Rf B (w.setCell ⟨g, 2, none⟩ (.slice (some ⟨gb, 0, none⟩) r.length cap)) g sv { s with bs := r } fc fa (.slice (some ⟨gb, 0, none⟩) r.length cap) tv := by
  have hb := ownsS_cut h.bo r.length (by rw [hs]; simp)
  rw [hs, bsl_take] at hb
  exact ⟨h.lo, (h.b.put 2 _).congr (fun j hj => by rcases (by omega : j = 0 ∨ j = 1 ∨ j = 2 ∨ j = 3 ∨ j = 4 ∨ j = 5) with rfl | rfl | rfl | rfl | rfl | rfl <;> rfl),
    ownsS_same hb (fun k hk => setCell_blk (fun e => h.bg (by injection hk with hk; rw [← e, ← hk]; rfl))), ownsS_same h.to (fun k hk => setCell_blk (fun e => h.tg (by rw [hk, e]))), (fun e => h.bg e), h.tg, (fun k hk => h.bt k hk)⟩
/-- A token more. -/
theorem Rf.tok {B : Nat} {w w5 : World} {g : Nat} {sv : Value} {s : St} {fc fa : Nat} {dv tv tv' : Value} {t : Tok} {o : Obj} (h : Rf B w g sv s fc fa dv tv) (hown : w5.ownsRow B 35 3 tv' (s.ts.length + 1) (tkl s.ts ++ tkC t))
    (hg : (w.alloc o).grownBy w5 tv.ownBlock) (hat : tv'.ownBlock = tv.ownBlock ∨ tv'.ownBlock = some (w.alloc o).heap.size) :
    Rf B (w5.setCell ⟨g, 1, none⟩ tv') g sv { s with ts := s.ts ++ [t] } fc fa dv tv' ∧ Below B w (w5.setCell ⟨g, 1, none⟩ tv') := by
  have hlg := h.lt
  have hsz : (w.alloc o).heap.size = w.heap.size + 1 := by simp
  have hkeep : ∀ k, k < w.heap.size → tv.ownBlock ≠ some k → w5.heap[k]? = w.heap[k]? := fun k hk hn => (hg.block k (by omega) (fun e => hn e.symm)).trans (Below.heap_alloc _ _ _ hk)
  have hne : tv'.ownBlock ≠ some g := by
    rcases hat with e | e
    · rw [e]; exact h.tg
    · rw [e, hsz]; intro e; injection e with e; omega
  have hbk : ∀ k, dv.ownBlock = some k → w5.heap[k]? = w.heap[k]? := fun k hk => hkeep k (ownsS_base h.bo k hk).2 (h.bt k hk)
  refine ⟨⟨h.lo, ((h.b.same (hkeep g hlg h.tg)).put 1 _).congr (fun j hj => by rcases (by omega : j = 0 ∨ j = 1 ∨ j = 2 ∨ j = 3 ∨ j = 4 ∨ j = 5) with rfl | rfl | rfl | rfl | rfl | rfl <;> rfl), ?_, ?_, h.bg, hne, fun k hk => ?_⟩, ?_⟩
  · exact ownsS_same (ownsS_same h.bo hbk) (fun k hk => setCell_blk (fun e => h.bg (by rw [hk, e])))
  · have h1 : w5.ownsRow B 35 3 tv' (s.ts ++ [t]).length (tkl (s.ts ++ [t])) := by rw [tkl_app, List.length_append]; exact hown
    exact ownsS_same h1 (fun k hk => setCell_blk (fun e => hne (by rw [hk, e])))
  · rcases hat with e | e
    · rw [e]; exact h.bt k hk
    · rw [e, hsz]
      intro e
      injection e with e
      have := (ownsS_base h.bo k hk).2
      omega
  · refine Below.setCell (p := ⟨g, 1, none⟩) ?_ h.lo _
    refine Below.grown (w := w.alloc o) (Below.alloc (Below.refl _ _) (Nat.le_trans h.lo (Nat.le_of_lt hlg)) _) hg (by rw [hsz]; have := h.lo; omega) (fun k hk => (ownsS_base h.to k hk).1)
/-- A block more. -/
theorem Rf.blk {B : Nat} {w w5 : World} {g d : Nat} {sv : Value} {s : St} {fc fa : Nat} {dv dv' tv : Value} {o : Obj} (h : Rf B w g sv s fc fa dv tv) (hown : w5.ownsRow B 3 1 dv' (s.bs.length + 1) (bsl s.bs ++ [.int .i64 (d : Int)]))
    (hg : (w.alloc o).grownBy w5 dv.ownBlock) (hat : dv'.ownBlock = dv.ownBlock ∨ dv'.ownBlock = some (w.alloc o).heap.size) :
    Rf B (w5.setCell ⟨g, 2, none⟩ dv') g sv { s with bs := d :: s.bs } fc fa dv' tv ∧ Below B w (w5.setCell ⟨g, 2, none⟩ dv') := by
  have hlg := h.lt
  have hsz : (w.alloc o).heap.size = w.heap.size + 1 := by simp
  have hkeep : ∀ k, k < w.heap.size → dv.ownBlock ≠ some k → w5.heap[k]? = w.heap[k]? := fun k hk hn => (hg.block k (by omega) (fun e => hn e.symm)).trans (Below.heap_alloc _ _ _ hk)
  have hne : dv'.ownBlock ≠ some g := by
    rcases hat with e | e
    · rw [e]; exact h.bg
    · rw [e, hsz]; intro e; injection e with e; omega
  have hbk : ∀ k, tv.ownBlock = some k → w5.heap[k]? = w.heap[k]? := fun k hk => hkeep k (ownsS_base h.to k hk).2 (fun e => h.bt k e hk)
  refine ⟨⟨h.lo, ((h.b.same (hkeep g hlg h.bg)).put 2 _).congr (fun j hj => by rcases (by omega : j = 0 ∨ j = 1 ∨ j = 2 ∨ j = 3 ∨ j = 4 ∨ j = 5) with rfl | rfl | rfl | rfl | rfl | rfl <;> rfl), ?_, ?_, hne, h.tg, fun k hk e => ?_⟩, ?_⟩
  · have h1 : w5.ownsRow B 3 1 dv' (d :: s.bs).length (bsl (d :: s.bs)) := by rw [bsl_cons, List.length_cons]; exact hown
    exact ownsS_same h1 (fun k hk => setCell_blk (fun e => hne (by rw [hk, e])))
  · exact ownsS_same (ownsS_same h.to hbk) (fun k hk => setCell_blk (fun e => h.tg (by rw [hk, e])))
  · rcases hat with e' | e'
    · rw [e'] at hk; exact h.bt k hk e
    · rw [e', hsz] at hk
      injection hk with hk
      have := (ownsS_base h.to k e).2
      omega
  · refine Below.setCell (p := ⟨g, 2, none⟩) ?_ h.lo _
    refine Below.grown (w := w.alloc o) (Below.alloc (Below.refl _ _) (Nat.le_trans h.lo (Nat.le_of_lt hlg)) _) hg (by rw [hsz]; have := h.lo; omega) (fun k hk => (ownsS_base h.bo k hk).1)
set_option maxRecDepth 100000 in
theorem fault_any {B : Nat} {w : World} {g : Nat} {sv : Value} {s : St} {fc fa : Nat} (hX : RfX B w g sv s fc fa) (c a : Nat) (ci ai : Int) (hc : ci = (c : Int)) (ha : ai = (a : Int)) :
    Calls Tryd.prog 25 #[.pointer (some ⟨g, 0, none⟩), .int .i64 ci, .int .i64 ai] w fun e w' => e = .returned (.tuple #[]) ∧ RfX B w' g sv s c a ∧ Below B w w' := by
  obtain ⟨dv, tv, h⟩ := hX
  subst hc
  subst ha
  have c4 := h.b.c 4 (by omega)
  have c5 := h.b.c 5 (by omega)
  have z4 := h.b.z 4
  have z5 := h.b.z 5
  have HH := Lib.hid h
  clear h
  go_enter Tryd.func25, Tryd.ntmps25
  go_wp2
  go_end0
  exact ⟨rfl, ⟨_, _, HH.out.flt c a⟩, ((Below.refl B w).setCell (p := ⟨g, 4, none⟩) HH.out.lo _).setCell (p := ⟨g, 5, none⟩) HH.out.lo _⟩
set_option maxRecDepth 100000 in
set_option maxHeartbeats 4000000 in
theorem add_any {B : Nat} {w : World} {g : Nat} {sv : Value} {s : St} {fc fa : Nat} (hX : RfX B w g sv s fc fa) (k : Nat) (x : List UInt8) (a : Nat) (X : ByteArray) (ai : Int) (hx : X = ⟨x.toArray⟩) (ha : ai = (a : Int)) (hts : s.ts.length ≤ 10000000) :
    Calls Tryd.prog 18 #[.pointer (some ⟨g, 0, none⟩), .int .i64 (k : Int), .string X, .int .i64 ai] w fun e w' => e = .returned (.tuple #[]) ∧ RfX B w' g sv { s with ts := s.ts ++ [⟨k, x, a⟩] } fc fa ∧ Below B w w' := by
  obtain ⟨dv, tv, h⟩ := hX
  obtain ⟨ta, cap, rfl⟩ := ownsS_shape h.to
  have c1 : w.cell? ⟨g, 1, none⟩ = some (.slice ta s.ts.length cap) := h.b.c 1 (by omega)
  have z1 := h.b.z 1
  obtain ⟨i0, hi, hz0, hz1, hz2⟩ := info_parts Tryd.infoT
  have HD := Lib.hid h
  have hlo := h.lo
  have hlt := h.lt
  have HBs : Hid (B ≤ w.heap.size) := by show B ≤ _; omega
  subst hx
  subst ha
  have HF := Lib.hid (newR_tok w ⟨k, x, a⟩ 35)
  have HGB : Hid (∀ w5 : World, (w.alloc (.cells #[.int .i64 (k : Int), .string ⟨x.toArray⟩, .int .i64 (a : Int)] 35)).grownBy w5 (Value.slice ta s.ts.length cap).ownBlock → w5.heap[g]? = w.heap[g]?) := fun w5 hg => (hg.block g (by simp; exact Nat.lt_succ_of_lt hlt) (fun e => h.tg e.symm)).trans (Below.heap_alloc _ _ _ hlt)
  have c1a : ∀ o, (w.alloc o).cell? ⟨g, 1, none⟩ = some (.slice ta s.ts.length cap) := fun o => (World.cell?_of_block (a := ⟨g, 1, none⟩) (Below.heap_alloc w o g hlt)).trans c1
  have hown := h.to
  clear h hlo hlt
  go_enter Tryd.func18, Tryd.ntmps18
  go_wp2_with (at_builtin; refine wpListS_append_own rfl _ _ 24 rfl B 35 i0 _ 3 32 Tryd.underlying24 hi hz0 hz1 hz2 rfl (by decide) _ s.ts.length (tkl s.ts) rfl (World.ownsRow.alloc hown _) ⟨w.heap.size, 0, none⟩ 1 1 (tkC ⟨k, x, a⟩) rfl rfl HF.out (tkC_one _) (by unfold maxLen; omega) (by omega) (by have := HBs.out; simp; omega) ?_)
  intro v' w5 hown2 hgrow hat2
  obtain ⟨a2, cap2, rfl⟩ := ownsS_shape hown2
  have hb5 := HGB.out w5 hgrow
  have g1 := (World.cell?_of_block (a := ⟨g, 1, none⟩) hb5).trans c1
  have gz1 := (World.frozen?_of_block (a := ⟨g, 1, none⟩) hb5).trans z1
  obtain ⟨h1, h2⟩ := HD.out.tok hown2 hgrow (by rw [show (w.alloc (.cells #[.int .i64 (k : Int), .string ⟨x.toArray⟩, .int .i64 (a : Int)] 35)).heap.size = w.heap.size + 1 by simp]; exact hat2)
  have H1 := Lib.hid h1
  have H2 := Lib.hid h2
  clear h1 h2 hown2 hgrow hat2 hb5 c1a hown
  go_wp2_with fail
  go_end0
  exact ⟨rfl, ⟨_, _, H1.out⟩, H2.out⟩
/-- May it begin a name? -/
def isL (c : UInt8) : Bool := decide (97 ≤ c.toNat ∧ c.toNat ≤ 122) || decide (65 ≤ c.toNat ∧ c.toNat ≤ 90) || decide (c.toNat = 95)
theorem isP_eq (c : UInt8) : isP c = (isL c || isD c) := rfl
set_option maxRecDepth 100000 in
theorem rdigit_any (b : UInt8) (w : World) : Calls Tryd.prog 27 #[.int .u8 (b.toNat : Int)] w fun e w' => e = .returned (.bool (isD b)) ∧ w' = w := by
  have hb : isD b = decide ((48 : Int) ≤ (b.toNat : Int) ∧ (b.toNat : Int) ≤ 57) := by unfold isD; congr 1; apply propext; omega
  rw [hb]
  clear hb
  generalize (b.toNat : Int) = c
  by_cases h1 : (48 : Int) ≤ c
  · by_cases h2 : c ≤ 57
    · go_enter Tryd.func27, Tryd.ntmps27
      go_wp2
      go_ret
      exact ⟨by simp [h1, h2], rfl⟩
    · go_enter Tryd.func27, Tryd.ntmps27
      go_wp2
      go_ret
      exact ⟨by simp [h2], rfl⟩
  · go_enter Tryd.func27, Tryd.ntmps27
    go_wp2
    go_ret
    exact ⟨by simp; omega, rfl⟩
set_option maxRecDepth 100000 in
theorem rletter_any (b : UInt8) (w : World) : Calls Tryd.prog 26 #[.int .u8 (b.toNat : Int)] w fun e w' => e = .returned (.bool (isL b)) ∧ w' = w := by
  have hb : isL b = if (97 : Int) ≤ (b.toNat : Int) ∧ (b.toNat : Int) ≤ 122 ∨ (65 : Int) ≤ (b.toNat : Int) ∧ (b.toNat : Int) ≤ 90 ∨ (b.toNat : Int) = 95 then true else false := by
    unfold isL
    split
    · rename_i h
      rcases h with h | h | h
      · rw [show decide (97 ≤ b.toNat ∧ b.toNat ≤ 122) = true from decide_eq_true (by omega)]; rfl
      · rw [show decide (65 ≤ b.toNat ∧ b.toNat ≤ 90) = true from decide_eq_true (by omega)]; simp
      · rw [show decide (b.toNat = 95) = true from decide_eq_true (by omega)]; simp
    · rw [show decide (97 ≤ b.toNat ∧ b.toNat ≤ 122) = false from decide_eq_false (by omega), show decide (65 ≤ b.toNat ∧ b.toNat ≤ 90) = false from decide_eq_false (by omega), show decide (b.toNat = 95) = false from decide_eq_false (by omega)]
      rfl
  rw [hb]
  clear hb
  generalize (b.toNat : Int) = c at *
  obtain ⟨R, hR⟩ : ∃ R, R = (if (97 : Int) ≤ c ∧ c ≤ 122 ∨ (65 : Int) ≤ c ∧ c ≤ 90 ∨ c = 95 then true else false) := ⟨_, rfl⟩
  rw [← hR]
  have HR := Lib.hid hR
  clear hR
  by_cases h1 : (97 : Int) ≤ c <;> by_cases h2 : c ≤ 122 <;> by_cases h3 : (65 : Int) ≤ c <;> by_cases h4 : c ≤ 90 <;> by_cases h5 : c = 95
  all_goals first
    | (exfalso; omega)
    | (have h6 : (c == 95) = decide (c = 95) := rfl
       go_enter Tryd.func26, Tryd.ntmps26
       go_wp2_with fail
       go_ret
       refine ⟨?_, rfl⟩
       rw [HR.out]
       first | (rw [if_pos (by omega)]; rfl) | (rw [if_neg (by omega)]; rfl) | (rw [if_pos (by omega)]; simp; omega) | (rw [if_neg (by omega)]; simp; omega))
end Lx
end Go.Proofs.YtkppnncpejohgaaDoor
