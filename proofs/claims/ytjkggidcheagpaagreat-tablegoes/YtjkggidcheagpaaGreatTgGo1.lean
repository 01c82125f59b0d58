/-
  TableGoes: the law's closure.
-/
import Derived.Test.YtjkggidcheagpaaGreatTgNum
import Derived.Deep.RegionHeld3
namespace Go.Proofs.YtjkggidcheagpaaGreat
open Go.RowKit Go.WideShapes

/-- Where the variables of goes lie: n, back, l, ok, over, numbers, stop. -/
structure Gv where
  n : Nat
  b : Nat
  l : Nat
  k : Nat
  o : Nat
  m : Nat
  s : Nat
def Gv.In (v : Gv) (j : Nat) : Prop := j = v.n ∨ j = v.b ∨ j = v.l ∨ j = v.k ∨ j = v.o ∨ j = v.m ∨ j = v.s
/-- Those that the closure writes. -/
def Gv.X (v : Gv) (j : Nat) : Prop := j = v.n ∨ j = v.k ∨ j = v.o
structure Gv.Ok (v : Gv) : Prop where
  nk : v.n ≠ v.k
  no : v.n ≠ v.o
  ko : v.k ≠ v.o
  b : ¬ v.X v.b
  l : ¬ v.X v.l
  m : ¬ v.X v.m
  s : ¬ v.X v.s
structure Gt (W : World) (v : Gv) (bk : Bool) (stop : Int) (lv nv : Value) (m : Nat) (ov : Bool) : Prop where
  n : W.cell? ⟨v.n, 0, none⟩ = some (.int .i64 (m : Int))
  b : W.cell? ⟨v.b, 0, none⟩ = some (.bool bk)
  l : W.cell? ⟨v.l, 0, none⟩ = some lv
  k : W.cell? ⟨v.k, 0, none⟩ = some (.bool true)
  o : W.cell? ⟨v.o, 0, none⟩ = some (.bool ov)
  m : W.cell? ⟨v.m, 0, none⟩ = some nv
  s : W.cell? ⟨v.s, 0, none⟩ = some (.int .i64 stop)
  zn : W.frozen? ⟨v.n, 0, none⟩ = false
  zk : W.frozen? ⟨v.k, 0, none⟩ = false
  zo : W.frozen? ⟨v.o, 0, none⟩ = false
theorem Gt.lt {W : World} {v : Gv} {bk : Bool} {stop : Int} {lv nv : Value} {m : Nat} {ov : Bool} (h : Gt W v bk stop lv nv m ov) : ∀ j, v.In j → j < W.heap.size := by
  rintro j (rfl | rfl | rfl | rfl | rfl | rfl | rfl)
  · exact lt_of_cell h.n
  · exact lt_of_cell h.b
  · exact lt_of_cell h.l
  · exact lt_of_cell h.k
  · exact lt_of_cell h.o
  · exact lt_of_cell h.m
  · exact lt_of_cell h.s
theorem Gt.same {W W' : World} {v : Gv} {bk : Bool} {stop : Int} {lv nv : Value} {m : Nat} {ov : Bool} (h : Gt W v bk stop lv nv m ov) (e : ∀ j, v.In j → W'.heap[j]? = W.heap[j]?) : Gt W' v bk stop lv nv m ov := by
  have c : ∀ j, v.In j → W'.cell? ⟨j, 0, none⟩ = W.cell? ⟨j, 0, none⟩ := fun j hj => World.cell?_of_block (a := ⟨j, 0, none⟩) (e j hj)
  have z : ∀ j, v.In j → W'.frozen? ⟨j, 0, none⟩ = W.frozen? ⟨j, 0, none⟩ := fun j hj => World.frozen?_of_block (a := ⟨j, 0, none⟩) (e j hj)
  unfold Gv.In at c z
  exact ⟨(c v.n (by simp)).trans h.n, (c v.b (by simp)).trans h.b, (c v.l (by simp)).trans h.l, (c v.k (by simp)).trans h.k, (c v.o (by simp)).trans h.o, (c v.m (by simp)).trans h.m, (c v.s (by simp)).trans h.s, (z v.n (by simp)).trans h.zn, (z v.k (by simp)).trans h.zk, (z v.o (by simp)).trans h.zo⟩
theorem Gt.below {W W' : World} {v : Gv} {bk : Bool} {stop : Int} {lv nv : Value} {m : Nat} {ov : Bool} (h : Gt W v bk stop lv nv m ov) (hb : Below W.heap.size W W') : Gt W' v bk stop lv nv m ov := h.same fun j hj => hb.block j (h.lt j hj)
theorem far7 {w : World} {g i h : Nat} {v : Value} (e : g ≠ h) : (w.setCell ⟨h, 0, none⟩ v).cell? ⟨g, i, none⟩ = w.cell? ⟨g, i, none⟩ := World.cell?_of_block (a := ⟨g, i, none⟩) (Below.heap_setCell _ _ _ _ e)
theorem hit7 {w : World} {g : Nat} {v u : Value} (h : w.cell? ⟨g, 0, none⟩ = some u) : (w.setCell ⟨g, 0, none⟩ v).cell? ⟨g, 0, none⟩ = some v := World.cell?_setCell_same' _ _ _ (by rw [h]; rfl)
theorem cell_keep7 {w w' : World} {b o : Nat} {v : Value} (h : w.cell? ⟨b, o, none⟩ = some v) (hb : Below w.heap.size w w') : w'.cell? ⟨b, o, none⟩ = some v := (hb.cell (p := ⟨b, o, none⟩) (lt_of_cell h)).trans h
theorem Gt.step {W : World} {v : Gv} {bk : Bool} {stop : Int} {lv nv : Value} {m : Nat} {ov : Bool} (h : Gt W v bk stop lv nv m ov) (hv : v.Ok) (ov' : Bool) : Gt ((W.setCell ⟨v.n, 0, none⟩ (.int .i64 ((m + 1 : Nat) : Int))).setCell ⟨v.o, 0, none⟩ (.bool ov')) v bk stop lv nv (m + 1) ov' := by
  have nb : v.b ≠ v.n ∧ v.b ≠ v.o := ⟨fun e => hv.b (Or.inl e), fun e => hv.b (Or.inr (Or.inr e))⟩
  have nl : v.l ≠ v.n ∧ v.l ≠ v.o := ⟨fun e => hv.l (Or.inl e), fun e => hv.l (Or.inr (Or.inr e))⟩
  have nm : v.m ≠ v.n ∧ v.m ≠ v.o := ⟨fun e => hv.m (Or.inl e), fun e => hv.m (Or.inr (Or.inr e))⟩
  have ns : v.s ≠ v.n ∧ v.s ≠ v.o := ⟨fun e => hv.s (Or.inl e), fun e => hv.s (Or.inr (Or.inr e))⟩
  refine ⟨?_, ?_, ?_, ?_, ?_, ?_, ?_, ?_, ?_, ?_⟩
  · rw [far7 hv.no]; exact hit7 h.n
  · rw [far7 nb.2, far7 nb.1]; exact h.b
  · rw [far7 nl.2, far7 nl.1]; exact h.l
  · rw [far7 hv.ko, far7 (Ne.symm hv.nk)]; exact h.k
  · exact hit7 (u := .bool ov) (by rw [far7 (Ne.symm hv.no)]; exact h.o)
  · rw [far7 nm.2, far7 nm.1]; exact h.m
  · rw [far7 ns.2, far7 ns.1]; exact h.s
  · rw [World.frozen?_setCell, World.frozen?_setCell]; exact h.zn
  · rw [World.frozen?_setCell, World.frozen?_setCell]; exact h.zk
  · rw [World.frozen?_setCell, World.frozen?_setCell]; exact h.zo
/-- An entry as a value. -/
def eV7 (e : En) : Value := .agg #[.bool e.live, .int .i64 e.hash, .int .i64 e.key, .int .i64 e.value, .int .i64 e.birth]
theorem en_same7 (x0 : Bool) (x1 x2 x3 x4 : Int) (w : World) : (binOp .eql 66 (.agg #[.bool x0, .int .i64 x1, .int .i64 x2, .int .i64 x3, .int .i64 x4]) (.agg #[.bool x0, .int .i64 x1, .int .i64 x2, .int .i64 x3, .int .i64 x4])).run Tryz.prog w = .ok (.bool true) w := by
  have hu : Tryz.prog.underlying 66 = some (.struct (Tryz.prog.fieldsOf 66)) := by kernel_rfl
  have hp : Tryz.prog.stoodInHeld 66 = false := by kernel_rfl
  rw [run_eql_struct, run_equalIn_agg w 9999 _ _ _ hu hp]
  have hF : (Tryz.prog.fieldsOf 66).toList = [⟨"Live", 4, 0, false, "", "", 0⟩, ⟨"Hash", 3, 1, false, "", "", 8⟩, ⟨"Key", 3, 2, false, "", "", 16⟩, ⟨"Value", 3, 3, false, "", "", 24⟩, ⟨"Birth", 3, 4, false, "", "", 32⟩] := by kernel_rfl
  rw [hF]
  simp [Op.eqFields, go_sem]
/-- The cells of an entry in a row. -/
abbrev Ce (V : World) (b o : Nat) (x0 : Bool) (x1 x2 x3 x4 : Int) : Prop := V.cell? ⟨b, o, none⟩ = some (.bool x0) ∧ V.cell? ⟨b, o + 1, none⟩ = some (.int .i64 x1) ∧ V.cell? ⟨b, o + 2, none⟩ = some (.int .i64 x2) ∧ V.cell? ⟨b, o + 3, none⟩ = some (.int .i64 x3) ∧ V.cell? ⟨b, o + 4, none⟩ = some (.int .i64 x4)
abbrev Sg7 (w0 : World) (vn vl vk vo vm la na j B : Nat) (lv nv : Value) (m : Nat) (i : Int) (x0 : Bool) (x1 x2 x3 x4 : Int) (V : World) : Prop :=
  (V.cell? ⟨vn, 0, none⟩ = some (.int .i64 (m : Int)) ∧ V.cell? ⟨vl, 0, none⟩ = some lv ∧ V.cell? ⟨vk, 0, none⟩ = some (.bool true) ∧ V.cell? ⟨vo, 0, none⟩ = some (.bool false) ∧ V.cell? ⟨vm, 0, none⟩ = some nv) ∧ V.cell? ⟨na, j, none⟩ = some (.int .i64 i) ∧
  (V.cell? ⟨la, j * 5, none⟩ = some (.bool x0) ∧ V.cell? ⟨la, j * 5 + 1, none⟩ = some (.int .i64 x1) ∧ V.cell? ⟨la, j * 5 + 2, none⟩ = some (.int .i64 x2) ∧ V.cell? ⟨la, j * 5 + 3, none⟩ = some (.int .i64 x3) ∧ V.cell? ⟨la, j * 5 + 4, none⟩ = some (.int .i64 x4)) ∧
  (V.cell? ⟨B, 0, none⟩ = some (.bool x0) ∧ V.cell? ⟨B, 1, none⟩ = some (.int .i64 x1) ∧ V.cell? ⟨B, 2, none⟩ = some (.int .i64 x2) ∧ V.cell? ⟨B, 3, none⟩ = some (.int .i64 x3) ∧ V.cell? ⟨B, 4, none⟩ = some (.int .i64 x4)) ∧ V.frozen? ⟨vk, 0, none⟩ = false ∧ Ex (fun k => k = vk) w0 V
section
variable {w0 V V' : World} {vn vl vk vo vm la na j B : Nat} {lv nv : Value} {m : Nat} {i : Int} {x0 : Bool} {x1 x2 x3 x4 : Int}
theorem Sg7.keep (h : Sg7 w0 vn vl vk vo vm la na j B lv nv m i x0 x1 x2 x3 x4 V) (hb : Below V.heap.size V V') : Sg7 w0 vn vl vk vo vm la na j B lv nv m i x0 x1 x2 x3 x4 V' := by
  obtain ⟨⟨a1, a2, a3, a4, a5⟩, b1, ⟨c0, c1, c2, c3, c4⟩, ⟨d0, d1, d2, d3, d4⟩, z, e⟩ := h
  exact ⟨⟨cell_keep7 a1 hb, cell_keep7 a2 hb, cell_keep7 a3 hb, cell_keep7 a4 hb, cell_keep7 a5 hb⟩, cell_keep7 b1 hb, ⟨cell_keep7 c0 hb, cell_keep7 c1 hb, cell_keep7 c2 hb, cell_keep7 c3 hb, cell_keep7 c4 hb⟩, ⟨cell_keep7 d0 hb, cell_keep7 d1 hb, cell_keep7 d2 hb, cell_keep7 d3 hb, cell_keep7 d4 hb⟩, (World.frozen?_of_block (a := ⟨vk, 0, none⟩) (hb.block vk (lt_of_cell a3))).trans z, e.trans (ex_of hb)⟩
theorem Sg7.put (hn : vn ≠ vk ∧ vl ≠ vk ∧ vo ≠ vk ∧ vm ≠ vk ∧ la ≠ vk ∧ na ≠ vk ∧ B ≠ vk) (h : Sg7 w0 vn vl vk vo vm la na j B lv nv m i x0 x1 x2 x3 x4 V) : Sg7 w0 vn vl vk vo vm la na j B lv nv m i x0 x1 x2 x3 x4 (V.setCell ⟨vk, 0, none⟩ (.bool true)) := by
  obtain ⟨⟨a1, a2, a3, a4, a5⟩, b1, ⟨c0, c1, c2, c3, c4⟩, ⟨d0, d1, d2, d3, d4⟩, z, e⟩ := h
  obtain ⟨n1, n2, n3, n4, n5, n6, n7⟩ := hn
  exact ⟨⟨(far7 n1).trans a1, (far7 n2).trans a2, hit7 a3, (far7 n3).trans a4, (far7 n4).trans a5⟩, (far7 n6).trans b1, ⟨(far7 n5).trans c0, (far7 n5).trans c1, (far7 n5).trans c2, (far7 n5).trans c3, (far7 n5).trans c4⟩, ⟨(far7 n7).trans d0, (far7 n7).trans d1, (far7 n7).trans d2, (far7 n7).trans d3, (far7 n7).trans d4⟩, by rw [World.frozen?_setCell]; exact z, e.setCell (fun _ => rfl) _⟩
end
set_option maxRecDepth 100000 in
set_option maxHeartbeats 8000000 in
theorem goes1_any {W : World} {v : Gv} {bk : Bool} {stop : Int} {la lc na nc N m j : Nat} {i : Int} {x : En} (hG : Gt W v bk stop (.slice (some ⟨la, 0, none⟩) N lc) (.slice (some ⟨na, 0, none⟩) N nc) m false) (hv : v.Ok) (hm : m < N) (hN : N ≤ 100000) (hj : j = if bk then N - 1 - m else m)
    (hx : Ce W la (j * 5) x.live x.hash x.key x.value x.birth) (hi : W.cell? ⟨na, j, none⟩ = some (.int .i64 i)) (hla : ¬ v.X la) (hna : ¬ v.X na) :
    Calls Tryz.prog 27 #[.int .i64 i, eV7 x, .pointer (some ⟨v.n, 0, none⟩), .pointer (some ⟨v.b, 0, none⟩), .pointer (some ⟨v.l, 0, none⟩), .pointer (some ⟨v.k, 0, none⟩), .pointer (some ⟨v.o, 0, none⟩), .pointer (some ⟨v.m, 0, none⟩), .pointer (some ⟨v.s, 0, none⟩)] W fun e w' =>
      e = .returned (.bool (!decide (((m + 1 : Nat) : Int) = stop))) ∧ Gt w' v bk stop (.slice (some ⟨la, 0, none⟩) N lc) (.slice (some ⟨na, 0, none⟩) N nc) (m + 1) (decide (((m + 1 : Nat) : Int) = stop)) ∧ Ex v.X W w' := by
  obtain ⟨x0, x1, x2, x3, x4⟩ := x
  simp only [eV7] at hx ⊢
  obtain ⟨W0, hW0⟩ : ∃ W', W.alloc (.cells #[.bool x0, .int .i64 x1, .int .i64 x2, .int .i64 x3, .int .i64 x4] 66) = W' := ⟨_, rfl⟩
  have hb0 : Below W.heap.size W W0 := by rw [← hW0]; exact (Below.refl _ W).alloc (Nat.le_refl _) _
  have hBk : Blk W0 W.heap.size 5 (fun j => #[Value.bool x0, .int .i64 x1, .int .i64 x2, .int .i64 x3, .int .i64 x4].getD j .nilFunc) := by rw [← hW0]; exact Blk.new W _ _
  have y0 : W0.cell? ⟨W.heap.size, 0, none⟩ = some (.bool x0) := hBk.c 0 (by omega)
  have y1 : W0.cell? ⟨W.heap.size, 1, none⟩ = some (.int .i64 x1) := hBk.c 1 (by omega)
  have y2 : W0.cell? ⟨W.heap.size, 2, none⟩ = some (.int .i64 x2) := hBk.c 2 (by omega)
  have y3 : W0.cell? ⟨W.heap.size, 3, none⟩ = some (.int .i64 x3) := hBk.c 3 (by omega)
  have y4 : W0.cell? ⟨W.heap.size, 4, none⟩ = some (.int .i64 x4) := hBk.c 4 (by omega)
  have hG0 := hG.below hb0
  have hlt := hG.lt
  have hne : v.n ≠ v.k ∧ v.l ≠ v.k ∧ v.o ≠ v.k ∧ v.m ≠ v.k ∧ la ≠ v.k ∧ na ≠ v.k ∧ W.heap.size ≠ v.k := ⟨hv.nk, fun e => hv.l (Or.inr (Or.inl e)), Ne.symm hv.ko, fun e => hv.m (Or.inr (Or.inl e)), fun e => hla (Or.inr (Or.inl e)), fun e => hna (Or.inr (Or.inl e)), fun e => by have := hlt v.k (by simp [Gv.In]); omega⟩
  obtain ⟨z0, z1, z2, z3, z4⟩ := hx
  have hS : Sg7 W0 v.n v.l v.k v.o v.m la na j W.heap.size (.slice (some ⟨la, 0, none⟩) N lc) (.slice (some ⟨na, 0, none⟩) N nc) m i x0 x1 x2 x3 x4 W0 := ⟨⟨hG0.n, hG0.l, hG0.k, hG0.o, hG0.m⟩, cell_keep7 hi hb0, ⟨cell_keep7 z0 hb0, cell_keep7 z1 hb0, cell_keep7 z2 hb0, cell_keep7 z3 hb0, cell_keep7 z4 hb0⟩, ⟨y0, y1, y2, y3, y4⟩, hG0.zk, Ex.refl _ _⟩
  have HKP : Hid (∀ V, Ex (fun k => k = v.k) W0 V → V.cell? ⟨v.k, 0, none⟩ = some (.bool true) → V.frozen? ⟨v.k, 0, none⟩ = false → Gt V v bk stop (.slice (some ⟨la, 0, none⟩) N lc) (.slice (some ⟨na, 0, none⟩) N nc) m false) := fun V hV h4 hz => by
    have hl0 := hG0.lt
    have c : ∀ j, v.In j → j ≠ v.k → V.cell? ⟨j, 0, none⟩ = W0.cell? ⟨j, 0, none⟩ := fun j hj hn => World.cell?_of_block (a := ⟨j, 0, none⟩) (hV.block j (hl0 j hj) hn)
    have z : ∀ j, v.In j → j ≠ v.k → V.frozen? ⟨j, 0, none⟩ = W0.frozen? ⟨j, 0, none⟩ := fun j hj hn => World.frozen?_of_block (a := ⟨j, 0, none⟩) (hV.block j (hl0 j hj) hn)
    unfold Gv.In at c z
    exact ⟨(c v.n (by simp) hv.nk).trans hG0.n, (c v.b (by simp) (fun e => hv.b (Or.inr (Or.inl e)))).trans hG0.b, (c v.l (by simp) hne.2.1).trans hG0.l, h4, (c v.o (by simp) hne.2.2.1).trans hG0.o, (c v.m (by simp) hne.2.2.2.1).trans hG0.m, (c v.s (by simp) (fun e => hv.s (Or.inr (Or.inl e)))).trans hG0.s, (z v.n (by simp) hv.nk).trans hG0.zn, hz, (z v.o (by simp) hne.2.2.1).trans hG0.zo⟩
  have k1 := hG0.n
  have k2 := hG0.b
  have k3 := hG0.l
  have t1 : (m : Int) < (N : Int) := by omega
  have t2 : (j : Int) < (N : Int) := by cases bk <;> simp at hj <;> omega
  have t3 : (0 : Int) ≤ (j : Int) := by omega
  have e1 : IntKind.i64.wrap ((m : Int) + 1) = ((m + 1 : Nat) : Int) := by rw [i64_small (by omega) (by omega)]; omega
  have e2 : IntKind.i64.wrap ((N : Int) - 1) = ((N - 1 : Nat) : Int) := by rw [i64_small (by omega) (by omega)]; omega
  have e3 : IntKind.i64.wrap (((N - 1 : Nat) : Int) - (m : Int)) = ((N - 1 - m : Nat) : Int) := by rw [i64_small (by omega) (by omega)]; omega
  have hq := fun V => en_same7 x0 x1 x2 x3 x4 V
  have HB0 := Lib.hid hb0
  have HNE := Lib.hid hne
  have HV := Lib.hid hv
  have HW0 := Lib.hid hW0
  have q1 : ¬ v.n = v.o := hv.no
  have q2 : ¬ v.o = v.n := Ne.symm hv.no
  have q3 : ¬ v.k = v.n := Ne.symm hv.nk
  have q4 : ¬ v.s = v.n := fun e => hv.s (Or.inl e)
  have q5 : ¬ v.k = v.o := hv.ko
  have q6 : ¬ v.n = v.k := hv.nk
  clear hb0 hBk y0 y1 y2 y3 y4 hG0 hlt hne z0 z1 z2 z3 z4 hi hW0 hG hla hna
  generalize hmm : m + 1 = m1 at *
  generalize hvn : v.n = vn at *
  generalize hvb : v.b = vb at *
  generalize hvl : v.l = vl at *
  generalize hvk : v.k = vk at *
  generalize hvo : v.o = vo at *
  generalize hvm : v.m = vm at *
  generalize hvs : v.s = vs at *
  cases bk with
  | false =>
    obtain rfl : j = m := by simpa using hj
    clear hj
    go_enter Tryz.func27, Tryz.ntmps27
    go_upto_region 1 with fail
    rw [HW0.out]
    go_upto_region 4 with fail
    clear k1 k2 k3 e2 e3
    go_region_held3 (fun V => (V.cell? ⟨vn, 0, none⟩ = some (.int .i64 (j : Int)) ∧ V.cell? ⟨vl, 0, none⟩ = some (.slice (some ⟨la, 0, none⟩) N lc) ∧ V.cell? ⟨vk, 0, none⟩ = some (.bool true) ∧ V.cell? ⟨vo, 0, none⟩ = some (.bool false) ∧ V.cell? ⟨vm, 0, none⟩ = some (.slice (some ⟨na, 0, none⟩) N nc)) ∧ V.cell? ⟨na, j, none⟩ = some (.int .i64 i) ∧
      (V.cell? ⟨la, j * 5, none⟩ = some (.bool x0) ∧ V.cell? ⟨la, j * 5 + 1, none⟩ = some (.int .i64 x1) ∧ V.cell? ⟨la, j * 5 + 2, none⟩ = some (.int .i64 x2) ∧ V.cell? ⟨la, j * 5 + 3, none⟩ = some (.int .i64 x3) ∧ V.cell? ⟨la, j * 5 + 4, none⟩ = some (.int .i64 x4)) ∧
      (V.cell? ⟨W.heap.size, 0, none⟩ = some (.bool x0) ∧ V.cell? ⟨W.heap.size, 1, none⟩ = some (.int .i64 x1) ∧ V.cell? ⟨W.heap.size, 2, none⟩ = some (.int .i64 x2) ∧ V.cell? ⟨W.heap.size, 3, none⟩ = some (.int .i64 x3) ∧ V.cell? ⟨W.heap.size, 4, none⟩ = some (.int .i64 x4)) ∧ V.frozen? ⟨vk, 0, none⟩ = false ∧ Ex (fun k => k = vk) W0 V)
      (first | exact hS | exact Sg7.keep hS (Below.refl _ _).drew | exact Sg7.put HNE.out (by assumption) | exact Sg7.put HNE.out (Sg7.keep hS (Below.refl _ _).drew) | exact Sg7.keep (by assumption) (by assumption) | fail)
      (first | fail)
    have hS2 : Sg7 W0 vn vl vk vo vm la na j W.heap.size (.slice (some ⟨la, 0, none⟩) N lc) (.slice (some ⟨na, 0, none⟩) N nc) j i x0 x1 x2 x3 x4 ((W0.setCell ⟨vk, 0, none⟩ (.bool true)).drew) := by assumption
    have hE := hS2.2.2.2.2.2
    have hGb := HKP.out _ hE hS2.1.2.2.1 hS2.2.2.2.2.1
    clear hS2 hS
    generalize (W0.setCell ⟨vk, 0, none⟩ (.bool true)).drew = V at *
    have r1 : V.cell? ⟨vn, 0, none⟩ = some (.int .i64 (j : Int)) := by rw [← hvn]; exact hGb.n
    have r2 : V.cell? ⟨vk, 0, none⟩ = some (.bool true) := by rw [← hvk]; exact hGb.k
    have r3 : V.cell? ⟨vo, 0, none⟩ = some (.bool false) := by rw [← hvo]; exact hGb.o
    have r4 : V.cell? ⟨vs, 0, none⟩ = some (.int .i64 stop) := by rw [← hvs]; exact hGb.s
    have z1 : V.frozen? ⟨vn, 0, none⟩ = false := by rw [← hvn]; exact hGb.zn
    have z2 : V.frozen? ⟨vo, 0, none⟩ = false := by rw [← hvo]; exact hGb.zo
    have HGb := Lib.hid hGb
    have HE := Lib.hid hE
    clear hGb hE
    go_wp2_with fail
    go_ret
    subst hmm hvn hvb hvl hvk hvo hvm hvs
    refine ⟨rfl, HGb.out.step HV.out _, ?_⟩
    have hE2 : Ex v.X W0 V := ⟨HE.out.os, HE.out.tape, HE.out.output, HE.out.size, fun k hk hx => HE.out.block k hk (fun e => hx (Or.inr (Or.inl e)))⟩
    exact (((ex_of HB0.out).trans hE2).setCell (fun _ => Or.inl rfl) _).setCell (fun _ => Or.inr (Or.inr rfl)) _
  | true =>
    have e4 : j = N - 1 - m := by simpa using hj
    rw [← e4] at e3
    clear hj e4
    go_enter Tryz.func27, Tryz.ntmps27
    go_upto_region 1 with fail
    rw [HW0.out]
    go_upto_region 4 with fail
    clear k1 k2 k3 e2 e3
    go_region_held3 (fun V => (V.cell? ⟨vn, 0, none⟩ = some (.int .i64 (m : Int)) ∧ V.cell? ⟨vl, 0, none⟩ = some (.slice (some ⟨la, 0, none⟩) N lc) ∧ V.cell? ⟨vk, 0, none⟩ = some (.bool true) ∧ V.cell? ⟨vo, 0, none⟩ = some (.bool false) ∧ V.cell? ⟨vm, 0, none⟩ = some (.slice (some ⟨na, 0, none⟩) N nc)) ∧ V.cell? ⟨na, j, none⟩ = some (.int .i64 i) ∧
      (V.cell? ⟨la, j * 5, none⟩ = some (.bool x0) ∧ V.cell? ⟨la, j * 5 + 1, none⟩ = some (.int .i64 x1) ∧ V.cell? ⟨la, j * 5 + 2, none⟩ = some (.int .i64 x2) ∧ V.cell? ⟨la, j * 5 + 3, none⟩ = some (.int .i64 x3) ∧ V.cell? ⟨la, j * 5 + 4, none⟩ = some (.int .i64 x4)) ∧
      (V.cell? ⟨W.heap.size, 0, none⟩ = some (.bool x0) ∧ V.cell? ⟨W.heap.size, 1, none⟩ = some (.int .i64 x1) ∧ V.cell? ⟨W.heap.size, 2, none⟩ = some (.int .i64 x2) ∧ V.cell? ⟨W.heap.size, 3, none⟩ = some (.int .i64 x3) ∧ V.cell? ⟨W.heap.size, 4, none⟩ = some (.int .i64 x4)) ∧ V.frozen? ⟨vk, 0, none⟩ = false ∧ Ex (fun k => k = vk) W0 V)
      (first | exact hS | exact Sg7.keep hS (Below.refl _ _).drew | exact Sg7.put HNE.out (by assumption) | exact Sg7.put HNE.out (Sg7.keep hS (Below.refl _ _).drew) | exact Sg7.keep (by assumption) (by assumption) | fail)
      (first | fail)
    have hS2 : Sg7 W0 vn vl vk vo vm la na j W.heap.size (.slice (some ⟨la, 0, none⟩) N lc) (.slice (some ⟨na, 0, none⟩) N nc) m i x0 x1 x2 x3 x4 ((W0.setCell ⟨vk, 0, none⟩ (.bool true)).drew) := by assumption
    have hE := hS2.2.2.2.2.2
    have hGb := HKP.out _ hE hS2.1.2.2.1 hS2.2.2.2.2.1
    clear hS2 hS
    generalize (W0.setCell ⟨vk, 0, none⟩ (.bool true)).drew = V at *
    have r1 : V.cell? ⟨vn, 0, none⟩ = some (.int .i64 (m : Int)) := by rw [← hvn]; exact hGb.n
    have r2 : V.cell? ⟨vk, 0, none⟩ = some (.bool true) := by rw [← hvk]; exact hGb.k
    have r3 : V.cell? ⟨vo, 0, none⟩ = some (.bool false) := by rw [← hvo]; exact hGb.o
    have r4 : V.cell? ⟨vs, 0, none⟩ = some (.int .i64 stop) := by rw [← hvs]; exact hGb.s
    have z1 : V.frozen? ⟨vn, 0, none⟩ = false := by rw [← hvn]; exact hGb.zn
    have z2 : V.frozen? ⟨vo, 0, none⟩ = false := by rw [← hvo]; exact hGb.zo
    have HGb := Lib.hid hGb
    have HE := Lib.hid hE
    clear hGb hE
    go_wp2_with fail
    go_ret
    subst hmm hvn hvb hvl hvk hvo hvm hvs
    refine ⟨rfl, HGb.out.step HV.out _, ?_⟩
    have hE2 : Ex v.X W0 V := ⟨HE.out.os, HE.out.tape, HE.out.output, HE.out.size, fun k hk hx => HE.out.block k hk (fun e => hx (Or.inr (Or.inl e)))⟩
    exact (((ex_of HB0.out).trans hE2).setCell (fun _ => Or.inl rfl) _).setCell (fun _ => Or.inr (Or.inr rfl)) _
end Go.Proofs.YtjkggidcheagpaaGreat
