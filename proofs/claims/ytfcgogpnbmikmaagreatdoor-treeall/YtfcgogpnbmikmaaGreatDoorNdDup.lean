/-
  duplicate: a tree in new memory.
-/
import Derived.Test.YtfcgogpnbmikmaaGreatDoorNdOwn
namespace Go.Proofs.YtfcgogpnbmikmaaGreatDoor
open Go.RowKit Go.WideShapes
namespace Nd
open Lx

theorem owns_type' {w : World} {B : Nat} {e : TypeId} {s n : Nat} {v : Value} {xs : List Value} (h : w.ownsRow B e s v n xs) : ∀ k, v.ownBlock = some k → ∃ cur, w.heap[k]? = some (.cells cur e (0, 0)) := by
  intro k hk
  rcases h.2 with ⟨rfl, rfl⟩ | ⟨g, cap, cur, rfl, hB, hh, hc, _⟩
  · cases hk
  · injection hk with hk
    have hk : g = k := hk
    subst hk
    exact ⟨cur, hh⟩
theorem owns_apart' {w : World} {B B' : Nat} {e e' : TypeId} {s s' n n' : Nat} {v v' : Value} {xs xs' : List Value} (h : w.ownsRow B e s v n xs) (h' : w.ownsRow B' e' s' v' n' xs') (hne : e ≠ e') : ∀ k, v.ownBlock = some k → v'.ownBlock ≠ some k := by
  intro k hk hk'
  obtain ⟨c1, h1⟩ := owns_type' h k hk
  obtain ⟨c2, h2⟩ := owns_type' h' k hk'
  rw [h1] at h2
  injection h2 with h2
  injection h2 with _ h2
  exact hne h2
theorem Rd.shape {w : World} {ok : Nat → Prop} {t : Tr} {x : Nv} (h : Rd w ok t x) : (∃ a n c, x.mv = .slice a n c) ∧ (∃ a n c, x.kv = .slice a n c) := by
  cases t with
  | no => exact h.elim
  | mk k a s neg mg n kid =>
    obtain ⟨_, _, _, _, ⟨a, c, h5, _⟩, ka, kc, h6, _⟩ := h
    exact ⟨⟨_, _, _, h5⟩, ⟨_, _, _, h6⟩⟩
abbrev V14 (p : Nat) (kv : Value) (q : Nat) (y : Nv) (V : World) : Prop := V.cell? ⟨p, 5, none⟩ = some kv ∧ V.cell? ⟨q, 0, none⟩ = some (.int .i64 y.k) ∧ V.cell? ⟨q, 1, none⟩ = some (.int .i64 y.a) ∧ V.cell? ⟨q, 2, none⟩ = some (.string y.s) ∧ V.cell? ⟨q, 3, none⟩ = some (.bool y.neg) ∧ V.cell? ⟨q, 4, none⟩ = some y.mv ∧ V.cell? ⟨q, 5, none⟩ = some y.kv
theorem V14.keep {V V' : World} {p q : Nat} {kv : Value} {y : Nv} (h : V14 p kv q y V) (hb : Below V.heap.size V V') : V14 p kv q y V' := by
  obtain ⟨h0, a0, a1, a2, a3, a4, a5⟩ := h
  exact ⟨cell_keep h0 hb, cell_keep a0 hb, cell_keep a1 hb, cell_keep a2 hb, cell_keep a3 hb, cell_keep a4 hb, cell_keep a5 hb⟩
theorem V14.set {V : World} {p q g o : Nat} {v kv : Value} {y : Nv} (h : V14 p kv q y V) (h1 : g ≠ p) (h2 : g ≠ q) : V14 p kv q y (V.setCell ⟨g, o, none⟩ v) := by
  obtain ⟨h0, a0, a1, a2, a3, a4, a5⟩ := h
  have k : ∀ b j, g ≠ b → (V.setCell ⟨g, o, none⟩ v).cell? ⟨b, j, none⟩ = V.cell? ⟨b, j, none⟩ := fun b j hb => World.cell?_of_block (a := ⟨b, j, none⟩) (setCell_blk (fun e => hb e.symm))
  exact ⟨(k _ _ h1).trans h0, (k _ _ h2).trans a0, (k _ _ h2).trans a1, (k _ _ h2).trans a2, (k _ _ h2).trans a3, (k _ _ h2).trans a4, (k _ _ h2).trans a5⟩
theorem V14.six {V : World} {p q g o0 o1 o2 o3 o4 o5 : Nat} {v0 v1 v2 v3 v4 v5 kv : Value} {y : Nv} (h : V14 p kv q y V) (h1 : g ≠ p) (h2 : g ≠ q) : V14 p kv q y ((((((V.setCell ⟨g, o0, none⟩ v0).setCell ⟨g, o1, none⟩ v1).setCell ⟨g, o2, none⟩ v2).setCell ⟨g, o3, none⟩ v3).setCell ⟨g, o4, none⟩ v4).setCell ⟨g, o5, none⟩ v5) :=
  (((((h.set h1 h2).set h1 h2).set h1 h2).set h1 h2).set h1 h2).set h1 h2
/-- What stands ahead of duplicate's loop. -/
structure Dp (w W : World) (k a : Int) (s : ByteArray) (neg : Bool) (mg : List Nat) (n : Nat) (mv kv : Value) : Prop where
  b : Below w.heap.size w W
  lt : w.heap.size + 2 ≤ W.heap.size
  box : At W w.heap.size 0 ⟨k, a, s, neg, mv, kv⟩
  res : ∃ F, Blk W (w.heap.size + 1) 6 F
  m : W.ownsRow (w.heap.size + 2) 57 1 mv mg.length (mgl mg)
  ks : W.ownsRow (w.heap.size + 2) 27 6 kv n (rw6 n (fun _ => z0))
/-- A state of its loop. -/
structure Dl (w W : World) (kid : Nat → Tr) (n : Nat) (mv kv : Value) (i : Nat) (zs : Nat → Nv) (h : Nat → Nat) (wr : World) : Prop where
  le : i ≤ n
  size : W.heap.size ≤ wr.heap.size
  os : wr.os = W.os
  tape : wr.tape = W.tape
  output : wr.output = W.output
  keep : ∀ b, b < W.heap.size → kv.ownBlock ≠ some b → wr.heap[b]? = W.heap[b]?
  row : wr.ownsRow (w.heap.size + 2) 27 6 kv n (rw6 n (fun j => if j < i then zs j else z0))
  h0 : h 0 = W.heap.size
  hm : ∀ j, j < i → h j ≤ h (j + 1)
  hi : h i ≤ wr.heap.size
  kids : ∀ j, j < i → Ow wr (kid j) (h j) (h (j + 1)) (zs j)
set_option maxRecDepth 100000 in
set_option maxHeartbeats 8000000 in
theorem dup_any {ok : Nat → Prop} : ∀ (t : Tr) (x : Nv) (w : World), Rd w ok t x → wt t ≤ 3000 → (∀ b, ok b → b < w.heap.size) →
    Calls Tryz.prog 33 #[x.v] w fun e w' => ∃ y : Nv, e = .returned y.v ∧ Ow w' t w.heap.size w'.heap.size y ∧ Below w.heap.size w w' := by
  intro t
  induction t with
  | no => exact fun _ _ h => h.elim
  | mk k a s neg mg n kid ih =>
    rintro ⟨xk, xa, xs, xn, xm, xkv⟩ w ⟨h1, h2, h3, h4, h5, ka, kc, h6, h7, b, off, h8, ys, h9⟩ hwt hok
    simp only at h1 h2 h3 h4 h5 h6
    subst h1 h2 h3 h4 h6
    simp only [wt] at hwt
    have hn3 : n ≤ 3000 := by have := sm_ge (fun i => wt (kid i)) (fun i => wt_pos _) n; omega
    have hm3 : mg.length ≤ 3000 := by omega
    have HWK : Hid (∀ i, i < n → wt (kid i) ≤ 3000) := fun i hi => by have := sm_get (fun i => wt (kid i)) hi; omega
    have hmk := run_makeN n hn3
    simp only [Nv.v]
    have HIH := Lib.hid ih
    have H9 := Lib.hid h9
    have H8 := Lib.hid h8
    have HOK := Lib.hid hok
    obtain ⟨W1, hW1⟩ : ∃ W1, (w.alloc (.cells #[.int .i64 xk, .int .i64 xa, .string xs, .bool xn, xm, .slice ka n kc] 27)).alloc (.cells #[.int .i64 0, .int .i64 0, .string ⟨#[]⟩, .bool false, .slice none 0 0, .slice none 0 0] 27) = W1 := ⟨_, rfl⟩
    have hs1 : W1.heap.size = w.heap.size + 2 := by rw [← hW1]; simp
    have hb1 : Below w.heap.size w W1 := by rw [← hW1]; exact ((Below.refl _ w).alloc (Nat.le_refl _) _).alloc (by simp) _
    have hmg1 := h5.same (w' := W1) (fun b hb => hb1.block b (hok b hb))
    obtain ⟨mv', w3, hrun, hown3, hgrow3, -⟩ := app_mag hmg1 hm3 22
    obtain ⟨ma', mc', rfl⟩ := ownsS_shape hown3
    rw [hs1] at hown3
    have hk3 : ∀ k, k < w.heap.size + 2 → w3.heap[k]? = W1.heap[k]? := fun k hk => hgrow3.block k (by omega) (fun e => by cases e)
    have hs3 : w.heap.size + 2 ≤ w3.heap.size := by have := hgrow3.size; omega
    have hx3 : ∃ F, Blk w3 w.heap.size 6 F ∧ F 0 = .int .i64 xk ∧ F 1 = .int .i64 xa ∧ F 2 = .string xs ∧ F 3 = .bool xn ∧ F 4 = xm ∧ F 5 = .slice ka n kc := by
      have h := (Blk.new w #[.int .i64 xk, .int .i64 xa, .string xs, .bool xn, xm, .slice ka n kc] 27)
      have h' := (h.same (w' := W1) (by rw [← hW1]; exact Below.heap_alloc _ _ _ (by simp))).same (hk3 w.heap.size (by omega))
      exact ⟨_, h', rfl, rfl, rfl, rfl, rfl, rfl⟩
    have hr3 : ∃ F, Blk w3 (w.heap.size + 1) 6 F := by
      have h := Blk.new (w.alloc (.cells #[.int .i64 xk, .int .i64 xa, .string xs, .bool xn, xm, .slice ka n kc] 27)) #[.int .i64 0, .int .i64 0, .string ⟨#[]⟩, .bool false, .slice none 0 0, .slice none 0 0] 27
      rw [hW1, World.size_alloc] at h
      exact ⟨_, h.same (hk3 (w.heap.size + 1) (by omega))⟩
    obtain ⟨F, hF, e0, e1, e2, e3, e4, e5⟩ := hx3
    have f0 := hF.c 0 (by omega)
    have f1 := hF.c 1 (by omega)
    have f2 := hF.c 2 (by omega)
    have f3 := hF.c 3 (by omega)
    have f4 := hF.c 4 (by omega)
    have f5 := hF.c 5 (by omega)
    have g4 := hF.z 4
    have g5 := hF.z 5
    rw [e0] at f0
    rw [e1] at f1
    rw [e2] at f2
    rw [e3] at f3
    rw [e4] at f4
    rw [e5] at f5
    have HF := Lib.hid hF
    have HE : Hid (F 0 = .int .i64 xk ∧ F 1 = .int .i64 xa ∧ F 2 = .string xs ∧ F 3 = .bool xn) := ⟨e0, e1, e2, e3⟩
    have HR3 := Lib.hid hr3
    have HO3 := Lib.hid hown3
    have HS3 := Lib.hid hs3
    have HB3 : Hid (Below w.heap.size w w3) := ⟨hgrow3.os.trans hb1.os, hgrow3.tape.trans hb1.tape, hgrow3.output.trans hb1.output, by omega, fun k hk => (hk3 k (by omega)).trans (hb1.block k hk)⟩
    have HRUN : Hid ((Builtin.append_ #[22, 22] 22 #[.slice none 0 0, xm]).run Tryz.prog ((w.alloc (.cells #[.int .i64 xk, .int .i64 xa, .string xs, .bool xn, xm, .slice ka n kc] 27)).alloc (.cells #[.int .i64 0, .int .i64 0, .string ⟨#[]⟩, .bool false, .slice none 0 0, .slice none 0 0] 27)) = .ok (.slice ma' mg.length mc') w3) := by show _ = _; rw [hW1]; exact hrun
    clear ih h9 h8 hok h5 hwt hW1 hs1 hb1 hmg1 hrun hown3 hgrow3 hk3 hs3 hr3 hF e0 e1 e2 e3 e4 e5
    go_enter Tryz.func33, Tryz.ntmps33
    have hX := (HF.out.put 4 (.slice ma' mg.length mc')).put 5 (.slice none 0 0)
    have hXs : ((w3.setCell ⟨w.heap.size, 4, none⟩ (.slice ma' mg.length mc')).setCell ⟨w.heap.size, 5, none⟩ (.slice none 0 0)).heap.size = w3.heap.size := by simp [World.setCell]
    have HX := Lib.hid hX
    have HXS := Lib.hid hXs
    have c5 : ∀ o, (((w3.setCell ⟨w.heap.size, 4, none⟩ (.slice ma' mg.length mc')).setCell ⟨w.heap.size, 5, none⟩ (.slice none 0 0)).alloc o).cell? ⟨w.heap.size, 5, none⟩ = some (.slice none 0 0) := fun o => (HX.out.same (Below.heap_alloc _ o _ (by rw [HXS.out]; have := HS3.out; omega))).c 5 (by omega)
    have d5 : ∀ o, (((w3.setCell ⟨w.heap.size, 4, none⟩ (.slice ma' mg.length mc')).setCell ⟨w.heap.size, 5, none⟩ (.slice none 0 0)).alloc o).frozen? ⟨w.heap.size, 5, none⟩ = false := fun o => (HX.out.same (Below.heap_alloc _ o _ (by rw [HXS.out]; have := HS3.out; omega))).z 5
    clear hX hXs
    rcases Nat.eq_zero_or_pos n with hn0 | hn0
    · have k1 : ¬ (0 : Int) < (n : Int) := by omega
      have HN0 := Lib.hid hn0
      clear hn0
      go_wp2_with (at_builtin; refine wpList_append_run rfl _ _ 22 rfl _ _ (.slice ma' mg.length mc') w3 rfl rfl HRUN.out ?_)
      have hP : Dp w ((w3.setCell ⟨w.heap.size, 4, none⟩ (.slice ma' mg.length mc')).setCell ⟨w.heap.size, 5, none⟩ (.slice none 0 0)) xk xa xs xn mg n (.slice ma' mg.length mc') (.slice none 0 0) := by
        have hb := HX.out
        obtain ⟨e0, e1, e2, e3⟩ := HE.out
        refine ⟨(HB3.out.setCell (p := ⟨w.heap.size, 4, none⟩) (Nat.le_refl _) _).setCell (p := ⟨w.heap.size, 5, none⟩) (Nat.le_refl _) _, by rw [HXS.out]; exact HS3.out, ⟨?_, ?_, ?_, ?_, ?_, ?_⟩, ?_, ?_, ?_⟩
        · exact (hb.c 0 (by omega)).trans (congrArg some e0)
        · exact (hb.c 1 (by omega)).trans (congrArg some e1)
        · exact (hb.c 2 (by omega)).trans (congrArg some e2)
        · exact (hb.c 3 (by omega)).trans (congrArg some e3)
        · exact hb.c 4 (by omega)
        · exact hb.c 5 (by omega)
        · obtain ⟨G, hG⟩ := HR3.out
          exact ⟨G, (hG.same (setCell_blk (by omega))).same (setCell_blk (by omega))⟩
        · refine ownsS_same (ownsS_same HO3.out (fun b hb => setCell_blk ?_)) (fun b hb => setCell_blk ?_)
          · have := (ownsS_base HO3.out b hb).1; omega
          · have := (ownsS_base HO3.out b hb).1; omega
        · rw [HN0.out]; exact World.ownsRow_nil _ _ _ _
      have HP := Lib.hid hP
      clear hP hmk c5 d5 f0 f1 f2 f3 f4 f5 g4 g5
      generalize ((w3.setCell ⟨w.heap.size, 4, none⟩ (.slice ma' mg.length mc')).setCell ⟨w.heap.size, 5, none⟩ (.slice none 0 0)) = W4 at *
      go_loopg [24] n (fun gk v24 wr => ∃ (i : Nat) (zs : Nat → Nv) (h : Nat → Nat), i + gk = n ∧ v24 = .int .i64 (i : Int) ∧ Dl w W4 kid n (.slice ma' mg.length mc') (Value.slice none 0 0) i zs h wr)
      case atStart =>
        refine ⟨0, fun _ => z0, fun _ => W4.heap.size, by omega, rfl, Nat.zero_le _, Nat.le_refl _, rfl, rfl, rfl, fun _ _ _ => rfl, ?_, rfl, fun _ h => absurd h (by omega), Nat.le_refl _, fun _ h => absurd h (by omega)⟩
        have h := HP.out.ks
        rw [rw6_congr (fun _ => z0) (fun j => if j < 0 then z0 else z0) n (fun j _ => by split <;> rfl)] at h
        exact h
      case round =>
        obtain ⟨i, zs, h, hig, rfl, hD⟩ := hrel
        obtain rfl : n = i := by have := hD.le; have := HN0.out; omega
        have k2 : ¬ (n : Int) < (n : Int) := by omega
        have HD := Lib.hid hD
        have hkb : (Value.slice none 0 0).ownBlock ≠ some w.heap.size := fun e => by have := (ownsS_base HP.out.ks _ e).1; omega
        have hkr : (Value.slice none 0 0).ownBlock ≠ some (w.heap.size + 1) := fun e => by have := (ownsS_base HP.out.ks _ e).1; omega
        have hbx := HP.out.box.same (hD.keep w.heap.size (by have := HP.out.lt; omega) hkb)
        obtain ⟨p0, p1, p2, p3, p4, p5⟩ := hbx
        simp only [Nat.zero_add] at p1 p2 p3 p4 p5
        obtain ⟨G, hG⟩ := HP.out.res
        have hG := hG.same (hD.keep (w.heap.size + 1) (by have := HP.out.lt; omega) hkr)
        have HG := Lib.hid hG
        have r0 := hG.c 0 (by omega)
        have r1 := hG.c 1 (by omega)
        have r2 := hG.c 2 (by omega)
        have r3 := hG.c 3 (by omega)
        have r4 := hG.c 4 (by omega)
        have r5 := hG.c 5 (by omega)
        have s0 := hG.z 0
        have s1 := hG.z 1
        have s2 := hG.z 2
        have s3 := hG.z 3
        have s4 := hG.z 4
        have s5 := hG.z 5
        clear hG hD hkb hkr
        go_wp2_with fail
        have hA := blk_at HG.out 0 ⟨xk, xa, xs, xn, .slice ma' mg.length mc', Value.slice none 0 0⟩ (by omega)
        have hst : ∀ k, k ≠ w.heap.size + 1 → (st6 wr (w.heap.size + 1) 0 ⟨xk, xa, xs, xn, .slice ma' mg.length mc', Value.slice none 0 0⟩).heap[k]? = wr.heap[k]? := fun k hk => st6_blk hk
        have hss := st6_size wr (w.heap.size + 1) 0 ⟨xk, xa, xs, xn, .slice ma' mg.length mc', Value.slice none 0 0⟩
        have hBl := below_st6 (o := 0) (x := ⟨xk, xa, xs, xn, .slice ma' mg.length mc', Value.slice none 0 0⟩) (g := w.heap.size + 1) (Below.refl w.heap.size wr) (by omega)
        simp only [st6, Nat.zero_add] at hA hst hss hBl
        generalize (((((wr.setCell ⟨w.heap.size + 1, 0, none⟩ (.int .i64 xk)).setCell ⟨w.heap.size + 1, 1, none⟩ (.int .i64 xa)).setCell ⟨w.heap.size + 1, 2, none⟩ (.string xs)).setCell ⟨w.heap.size + 1, 3, none⟩ (.bool xn)).setCell ⟨w.heap.size + 1, 4, none⟩ (.slice ma' mg.length mc')).setCell ⟨w.heap.size + 1, 5, none⟩ (Value.slice none 0 0) = w6 at *
        obtain ⟨y0, y1, y2, y3, y4, y5⟩ := hA
        simp only [Nat.zero_add] at y1 y2 y3 y4 y5
        refine bodyPost_ret (v := .agg #[.int .i64 xk, .int .i64 xa, .string xs, .bool xn, .slice ma' mg.length mc', Value.slice none 0 0]) (by simp [results, Tryz.results33, go_sem, y0, y1, y2, y3, y4, y5]) rfl ?_
        have hD := HD.out
        have hP := HP.out
        have hPl := hP.lt
        have hDs := hD.size
        refine ⟨⟨xk, xa, xs, xn, .slice ma' mg.length mc', Value.slice none 0 0⟩, rfl, ⟨rfl, rfl, rfl, rfl, ?_, zs, h, ?_, ?_, ?_, ?_, hD.hm, ?_, fun j hj => ?_⟩, ?_⟩
        · have hm4 : wr.ownsRow (w.heap.size + 2) 57 1 (.slice ma' mg.length mc') mg.length (mgl mg) := ownsS_same hP.m (fun b hb => hD.keep b (ownsS_base hP.m b hb).2 (fun e => owns_apart' hP.m hP.ks (by decide) b hb e))
          exact owns_mono (ownsS_same hm4 (fun b hb => hst b (by have := (ownsS_base hm4 b hb).1; omega))) (by omega)
        · have hr4 := hD.row
          rw [rw6_congr (fun j => if j < n then zs j else z0) zs n (fun j hj => if_pos hj)] at hr4
          exact owns_mono (ownsS_same hr4 (fun b hb => hst b (by have := (ownsS_base hr4 b hb).1; omega))) (by omega)
        · intro b hb
          rw [hD.h0]
          exact (ownsS_base hP.m b hb).2
        · intro b hb
          rw [hD.h0]
          exact (ownsS_base hP.ks b hb).2
        · rw [hD.h0]; omega
        · rw [hss]; exact hD.hi
        · refine (hD.kids j hj).same (fun b hb1 hb2 => hst b ?_)
          have := h_mono hD.hm (Nat.zero_le j) (Nat.le_of_lt hj)
          rw [hD.h0] at this
          omega
        · refine ⟨hBl.os.trans (hD.os.trans hP.b.os), hBl.tape.trans (hD.tape.trans hP.b.tape), hBl.output.trans (hD.output.trans hP.b.output), by rw [hss]; have := hP.b.size; omega, fun k hk => ?_⟩
          rw [hst k (by omega), hD.keep k (by omega) (fun e => by have := (ownsS_base hP.ks _ e).1; omega), hP.b.block k hk]
    · have k1 : (0 : Int) < (n : Int) := by omega
      go_wp2_with (at_builtin; refine wpList_append_run rfl _ _ 22 rfl _ _ (.slice ma' mg.length mc') w3 rfl rfl HRUN.out ?_)
      have hP : Dp w ((((w3.setCell ⟨w.heap.size, 4, none⟩ (.slice ma' mg.length mc')).setCell ⟨w.heap.size, 5, none⟩ (.slice none 0 0)).alloc (.cells (madeCells (Value.agg #[.int .i64 0, .int .i64 0, .string ⟨#[]⟩, .bool false, .slice none 0 0, .slice none 0 0]).cells (n * 6)) 27)).setCell ⟨w.heap.size, 5, none⟩ (.slice (some ⟨w3.heap.size, 0, none⟩) n n)) xk xa xs xn mg n (.slice ma' mg.length mc') (.slice (some ⟨w3.heap.size, 0, none⟩) n n) := by
        have hlt := HS3.out
        have hal : (((w3.setCell ⟨w.heap.size, 4, none⟩ (.slice ma' mg.length mc')).setCell ⟨w.heap.size, 5, none⟩ (.slice none 0 0)).alloc (.cells (madeCells (Value.agg #[.int .i64 0, .int .i64 0, .string ⟨#[]⟩, .bool false, .slice none 0 0, .slice none 0 0]).cells (n * 6)) 27)).heap[w.heap.size]? = ((w3.setCell ⟨w.heap.size, 4, none⟩ (.slice ma' mg.length mc')).setCell ⟨w.heap.size, 5, none⟩ (.slice none 0 0)).heap[w.heap.size]? := Below.heap_alloc _ _ _ (by rw [HXS.out]; omega)
        have hb := (HX.out.same hal).put 5 (.slice (some ⟨w3.heap.size, 0, none⟩) n n)
        obtain ⟨e0, e1, e2, e3⟩ := HE.out
        refine ⟨(((HB3.out.setCell (p := ⟨w.heap.size, 4, none⟩) (Nat.le_refl _) _).setCell (p := ⟨w.heap.size, 5, none⟩) (Nat.le_refl _) _).alloc (by rw [HXS.out]; omega) _).setCell (p := ⟨w.heap.size, 5, none⟩) (Nat.le_refl _) _, by simp [World.setCell]; omega, ⟨?_, ?_, ?_, ?_, ?_, ?_⟩, ?_, ?_, ?_⟩
        · exact (hb.c 0 (by omega)).trans (congrArg some e0)
        · exact (hb.c 1 (by omega)).trans (congrArg some e1)
        · exact (hb.c 2 (by omega)).trans (congrArg some e2)
        · exact (hb.c 3 (by omega)).trans (congrArg some e3)
        · exact hb.c 4 (by omega)
        · exact hb.c 5 (by omega)
        · obtain ⟨G, hG⟩ := HR3.out
          exact ⟨G, (((hG.same (setCell_blk (by omega))).same (setCell_blk (by omega))).same (Below.heap_alloc _ _ _ (by rw [HXS.out]; omega))).same (setCell_blk (by omega))⟩
        · have hm2 : ((w3.setCell ⟨w.heap.size, 4, none⟩ (.slice ma' mg.length mc')).setCell ⟨w.heap.size, 5, none⟩ (.slice none 0 0)).ownsRow (w.heap.size + 2) 57 1 (.slice ma' mg.length mc') mg.length (mgl mg) := by
            refine ownsS_same (ownsS_same HO3.out (fun b hb => setCell_blk ?_)) (fun b hb => setCell_blk ?_)
            · have := (ownsS_base HO3.out b hb).1; omega
            · have := (ownsS_base HO3.out b hb).1; omega
          refine ownsS_same (World.ownsRow.alloc hm2 _) (fun b hb => setCell_blk ?_)
          have := (ownsS_base hm2 b hb).1
          omega
        · have hk := owns_made n hn3 ((w3.setCell ⟨w.heap.size, 4, none⟩ (.slice ma' mg.length mc')).setCell ⟨w.heap.size, 5, none⟩ (.slice none 0 0)) (w.heap.size + 2) (by rw [HXS.out]; omega)
          rw [HXS.out] at hk
          refine ownsS_same hk (fun b hb => setCell_blk ?_)
          have := (ownsS_base hk b hb).1
          omega
      have HP := Lib.hid hP
      simp only [Value.cells] at HP
      clear hP hmk c5 d5 f0 f1 f2 f3 f4 f5 g4 g5
      generalize ((((w3.setCell ⟨w.heap.size, 4, none⟩ (.slice ma' mg.length mc')).setCell ⟨w.heap.size, 5, none⟩ (.slice none 0 0)).alloc (.cells (madeCells #[.int .i64 0, .int .i64 0, .string ⟨#[]⟩, .bool false, .slice none 0 0, .slice none 0 0] (n * 6)) 27)).setCell ⟨w.heap.size, 5, none⟩ (.slice (some ⟨w3.heap.size, 0, none⟩) n n)) = W4 at *
      go_loopg [24] n (fun gk v24 wr => ∃ (i : Nat) (zs : Nat → Nv) (h : Nat → Nat), i + gk = n ∧ v24 = .int .i64 (i : Int) ∧ Dl w W4 kid n (.slice ma' mg.length mc') (Value.slice (some ⟨w3.heap.size, 0, none⟩) n n) i zs h wr)
      case atStart =>
        refine ⟨0, fun _ => z0, fun _ => W4.heap.size, by omega, rfl, Nat.zero_le _, Nat.le_refl _, rfl, rfl, rfl, fun _ _ _ => rfl, ?_, rfl, fun _ h => absurd h (by omega), Nat.le_refl _, fun _ h => absurd h (by omega)⟩
        have h := HP.out.ks
        rw [rw6_congr (fun _ => z0) (fun j => if j < 0 then z0 else z0) n (fun j _ => by split <;> rfl)] at h
        exact h
      case round =>
        obtain ⟨i, zs, h, hig, rfl, hD⟩ := hrel
        by_cases hin : i < n
        · have k2 : (i : Int) < (n : Int) := by omega
          have k3 : (0 : Int) ≤ (i : Int) := by omega
          have e9 : IntKind.i64.wrap ((i : Int) + 1) = ((i + 1 : Nat) : Int) := by rw [i64_small (by omega) (by omega)]; omega
          obtain ⟨rfl, hokb⟩ := H8.out (by omega)
          obtain ⟨hat, hrd⟩ := H9.out i hin
          have hsm : ∀ k, k < w.heap.size → wr.heap[k]? = w.heap[k]? := fun k hk => (hD.keep k (by have := HP.out.lt; omega) (fun e => by have := (ownsS_base HP.out.ks _ e).1; omega)).trans (HP.out.b.block k hk)
          have hws : w.heap.size + 2 ≤ wr.heap.size := Nat.le_trans HP.out.lt hD.size
          have hat := hat.same (hsm b (HOK.out b hokb))
          obtain ⟨p0, p1, p2, p3, p4, p5⟩ := hat
          have HSM := Lib.hid hsm
          have HD := Lib.hid hD
          have hbx := HP.out.box.same (hD.keep w.heap.size (by have := HP.out.lt; omega) (fun e => by have := (ownsS_base HP.out.ks _ e).1; omega))
          have b5 := hbx.c5
          simp only [Nat.zero_add] at b5
          have HB5 := Lib.hid b5
          have hgk : w3.heap.size < wr.heap.size := (ownsS_base hD.row w3.heap.size rfl).2
          have HGK := Lib.hid hgk
          generalize ys i = y at *
          obtain ⟨⟨sa, sn, sc, hsv⟩, ⟨ta, tn, tc, htv⟩⟩ := hrd.shape
          obtain ⟨yk, ya, yx, yn, ym, yv⟩ := y
          simp only at hsv htv p0 p1 p2 p3 p4 p5
          subst hsv
          subst htv
          have HRD := Lib.hid hrd
          have C : ∀ V, Below wr.heap.size wr V → Calls Tryz.prog 33 #[(Nv.mk yk ya yx yn (.slice sa sn sc) (.slice ta tn tc)).v] V fun e w' => ∃ z : Nv, e = .returned z.v ∧ Ow w' (kid i) V.heap.size w'.heap.size z ∧ Below V.heap.size V w' := fun V hV =>
            HIH.out i _ V (HRD.out.same (fun b hb => (hV.block b (by have := HOK.out b hb; omega)).trans (HSM.out b (HOK.out b hb)))) (HWK.out i hin) (fun b hb => Nat.lt_of_lt_of_le (HOK.out b hb) (by have := hV.size; omega))
          simp only [Nv.v] at C
          clear hD hsm hrd hbx hgk
          have C := fun V hV => C V hV
          go_wp2_with fail
          have hS : V14 w.heap.size (.slice (some ⟨w3.heap.size, 0, none⟩) n n) wr.heap.size ⟨yk, ya, yx, yn, .slice sa sn sc, .slice ta tn tc⟩ (wr.alloc (.cells #[.int .i64 yk, .int .i64 ya, .string yx, .bool yn, .slice sa sn sc, .slice ta tn tc] 27)) :=
            ⟨(cell_keep HB5.out ((Below.refl _ wr).alloc (Nat.le_refl _) _)), World.cell?_alloc_at _ _ _ _ rfl, World.cell?_alloc_at _ _ _ _ rfl, World.cell?_alloc_at _ _ _ _ rfl, World.cell?_alloc_at _ _ _ _ rfl, World.cell?_alloc_at _ _ _ _ rfl, World.cell?_alloc_at _ _ _ _ rfl⟩
          obtain ⟨Wk, hWk⟩ : ∃ Wk, wr.alloc (.cells #[.int .i64 yk, .int .i64 ya, .string yx, .bool yn, .slice sa sn sc, .slice ta tn tc] 27) = Wk := ⟨_, rfl⟩
          have hbk : Below wr.heap.size wr Wk := by rw [← hWk]; exact (Below.refl _ wr).alloc (Nat.le_refl _) _
          rw [hWk] at hS ⊢
          have hlt := HS3.out
          have hgk := HGK.out
          have HBK := Lib.hid hbk
          have hne1 : w3.heap.size ≠ w.heap.size := by omega
          have hne2 : w3.heap.size ≠ wr.heap.size := by omega
          clear hWk hbk p0 p1 p2 p3 p4 p5 b5
          go_region_held3 (fun V => V.cell? ⟨w.heap.size, 5, none⟩ = some (.slice (some ⟨w3.heap.size, 0, none⟩) n n) ∧ V.cell? ⟨wr.heap.size, 0, none⟩ = some (.int .i64 yk) ∧ V.cell? ⟨wr.heap.size, 1, none⟩ = some (.int .i64 ya) ∧ V.cell? ⟨wr.heap.size, 2, none⟩ = some (.string yx) ∧ V.cell? ⟨wr.heap.size, 3, none⟩ = some (.bool yn) ∧ V.cell? ⟨wr.heap.size, 4, none⟩ = some (.slice sa sn sc) ∧ V.cell? ⟨wr.heap.size, 5, none⟩ = some (.slice ta tn tc))
            (first | with_reducible exact hS | with_reducible exact hS2 | with_reducible exact V14.six hS2 hne1 hne2 | with_reducible exact V14.keep hS (Below.refl _ _).drew | fail)
            (first | (go_at_call 33; refine (C _ (by first | exact HBK.out.drew | exact HBK.out)).mono ?_; rintro e w2 ⟨z, rfl, hz, hb2⟩; obtain ⟨⟨za, zn, zc, hzm⟩, ⟨zb, zm, zd, hzk⟩⟩ := hz.rd.shape; obtain ⟨zk, zat, zx, zneg, zmv, zkv⟩ := z; simp only at hzm hzk; subst hzm; subst hzk; have hw2 : Below wr.heap.size wr w2 := (by first | exact HBK.out.drew.trans (hb2.mono HBK.out.drew.size) | exact HBK.out.trans (hb2.mono HBK.out.size)); have hrow2 : w2.ownsRow (w.heap.size + 2) 27 6 (.slice (some ⟨w3.heap.size, 0, none⟩) n n) n (rw6 n (fun j => if j < i then zs j else z0)) := ownsS_same HD.out.row (fun k hk => hw2.block k (ownsS_base HD.out.row k hk).2); obtain ⟨q0, q1, q2, q3, q4, q5⟩ := at_of_owns hrow2 i hin; simp only [Nat.zero_add] at q0 q1 q2 q3 q4 q5; have s0 := hrow2.frozenAt (i * 6); have s1 := hrow2.frozenAt (i * 6 + 1); have s2 := hrow2.frozenAt (i * 6 + 2); have s3 := hrow2.frozenAt (i * 6 + 3); have s4 := hrow2.frozenAt (i * 6 + 4); have s5 := hrow2.frozenAt (i * 6 + 5); have HZ := Lib.hid hz; have HRW := Lib.hid hrow2; have HW2 := Lib.hid hw2; have HB2 := Lib.hid hb2; have hS2 : V14 w.heap.size (.slice (some ⟨w3.heap.size, 0, none⟩) n n) wr.heap.size ⟨yk, ya, yx, yn, .slice sa sn sc, .slice ta tn tc⟩ w2 := V14.keep hS (by first | exact hb2 | exact ((Below.refl _ Wk).drew).trans hb2); clear hz hrow2 hw2 hb2) | fail)
          have hrow6 := store6 HRW.out i hin ⟨zk, zat, zx, zneg, .slice za zn zc, .slice zb zm zd⟩
          have hst6 : ∀ k, k ≠ w3.heap.size → (st6 w2 w3.heap.size (i * 6) ⟨zk, zat, zx, zneg, .slice za zn zc, .slice zb zm zd⟩).heap[k]? = w2.heap[k]? := fun k hk => st6_blk hk
          have hss6 := st6_size w2 w3.heap.size (i * 6) ⟨zk, zat, zx, zneg, .slice za zn zc, .slice zb zm zd⟩
          have hB6 := below_st6 (o := i * 6) (x := ⟨zk, zat, zx, zneg, .slice za zn zc, .slice zb zm zd⟩) (g := w3.heap.size) (Below.refl w3.heap.size w2) (Nat.le_refl _)
          simp only [st6] at hrow6 hst6 hss6 hB6
          generalize (((((w2.setCell ⟨w3.heap.size, i * 6, none⟩ (.int .i64 zk)).setCell ⟨w3.heap.size, i * 6 + 1, none⟩ (.int .i64 zat)).setCell ⟨w3.heap.size, i * 6 + 2, none⟩ (.string zx)).setCell ⟨w3.heap.size, i * 6 + 3, none⟩ (.bool zneg)).setCell ⟨w3.heap.size, i * 6 + 4, none⟩ (.slice za zn zc)).setCell ⟨w3.heap.size, i * 6 + 5, none⟩ (.slice zb zm zd) = w6 at *
          have HR6 := Lib.hid hrow6
          have HST6 := Lib.hid hst6
          have HSS6 := Lib.hid hss6
          have HB6 := Lib.hid hB6
          clear hrow6 hst6 hss6 hB6 q0 q1 q2 q3 q4 q5 s0 s1 s2 s3 s4 s5 hS hS2 C
          go_wp2_with fail
          go_roundg (gk - 1)
          case measure => omega
          case rel =>
            have hD := HD.out
            have hP := HP.out
            have hW2 := HW2.out
            have hst := HST6.out
            have hss := HSS6.out
            have hg4 : w3.heap.size < W4.heap.size := (ownsS_base hP.ks w3.heap.size rfl).2
            have hks := hW2.size
            have hds := hD.size
            refine ⟨i + 1, upd zs i ⟨zk, zat, zx, zneg, .slice za zn zc, .slice zb zm zd⟩, fun j => if j ≤ i then h j else w2.heap.size, by omega, rfl, ?_⟩
            refine ⟨by omega, by omega, HB6.out.os.trans (hW2.os.trans hD.os), HB6.out.tape.trans (hW2.tape.trans hD.tape), HB6.out.output.trans (hW2.output.trans hD.output), fun b hb hne => ?_, ?_, ?_, fun j hj => ?_, ?_, fun j hj => ?_⟩
            · rw [hst b (fun e => hne (by rw [e]; rfl)), hW2.block b (by omega)]
              exact hD.keep b hb hne
            · have h6 := HR6.out
              rw [rw6_congr (upd (fun j => if j < i then zs j else z0) i ⟨zk, zat, zx, zneg, .slice za zn zc, .slice zb zm zd⟩) (fun j => if j < i + 1 then upd zs i ⟨zk, zat, zx, zneg, .slice za zn zc, .slice zb zm zd⟩ j else z0) n (fun j _ => ?_)] at h6
              · exact h6
              · simp only [upd]
                by_cases e1 : j = i
                · rw [if_pos e1, if_pos (by omega), if_pos e1]
                · rw [if_neg e1]
                  by_cases e2 : j < i
                  · rw [if_pos e2, if_pos (by omega), if_neg e1]
                  · rw [if_neg e2, if_neg (by omega)]
            · simp only [Nat.zero_le, if_true]
              exact hD.h0
            · by_cases e1 : j = i
              · subst e1
                simp only [Nat.le_refl, if_true, if_neg (show ¬ j + 1 ≤ j by omega)]
                have := hD.hi
                omega
              · simp only [if_pos (show j ≤ i by omega), if_pos (show j + 1 ≤ i by omega)]
                exact hD.hm j (by omega)
            · simp only [if_neg (show ¬ i + 1 ≤ i by omega)]
              omega
            · by_cases e1 : j = i
              · subst e1
                simp only [Nat.le_refl, if_true, if_neg (show ¬ j + 1 ≤ j by omega), upd_at]
                have hz := HZ.out
                have hbs := HBK.out.size
                have hdi := hD.hi
                refine Ow.mono (hz.same (fun b hb1 hb2 => hst b ?_)) ?_ (Nat.le_refl _)
                · have hb1 : Wk.heap.size ≤ b := hb1
                  omega
                · show _ ≤ Wk.heap.size
                  omega
              · have hk := hD.kids j (by omega)
                simp only [if_pos (show j ≤ i by omega), if_pos (show j + 1 ≤ i by omega)]
                rw [show upd zs i ⟨zk, zat, zx, zneg, .slice za zn zc, .slice zb zm zd⟩ j = zs j from if_neg e1]
                have hm0 := h_mono hD.hm (Nat.zero_le j) (by omega)
                have hm1 := h_mono hD.hm (show j + 1 ≤ i by omega) (Nat.le_refl _)
                have hdi := hD.hi
                rw [hD.h0] at hm0
                refine hk.same (fun b hb1 hb2 => ?_)
                rw [hst b (by omega), hW2.block b (by omega)]
        · obtain rfl : n = i := by have := hD.le; omega
          have k2 : ¬ (n : Int) < (n : Int) := by omega
          have HD := Lib.hid hD
          have hkb : (Value.slice (some ⟨w3.heap.size, 0, none⟩) n n).ownBlock ≠ some w.heap.size := fun e => by have := (ownsS_base HP.out.ks _ e).1; omega
          have hkr : (Value.slice (some ⟨w3.heap.size, 0, none⟩) n n).ownBlock ≠ some (w.heap.size + 1) := fun e => by have := (ownsS_base HP.out.ks _ e).1; omega
          have hbx := HP.out.box.same (hD.keep w.heap.size (by have := HP.out.lt; omega) hkb)
          obtain ⟨p0, p1, p2, p3, p4, p5⟩ := hbx
          simp only [Nat.zero_add] at p1 p2 p3 p4 p5
          obtain ⟨G, hG⟩ := HP.out.res
          have hG := hG.same (hD.keep (w.heap.size + 1) (by have := HP.out.lt; omega) hkr)
          have HG := Lib.hid hG
          have r0 := hG.c 0 (by omega)
          have r1 := hG.c 1 (by omega)
          have r2 := hG.c 2 (by omega)
          have r3 := hG.c 3 (by omega)
          have r4 := hG.c 4 (by omega)
          have r5 := hG.c 5 (by omega)
          have s0 := hG.z 0
          have s1 := hG.z 1
          have s2 := hG.z 2
          have s3 := hG.z 3
          have s4 := hG.z 4
          have s5 := hG.z 5
          clear hG hD hkb hkr
          go_wp2_with fail
          have hA := blk_at HG.out 0 ⟨xk, xa, xs, xn, .slice ma' mg.length mc', Value.slice (some ⟨w3.heap.size, 0, none⟩) n n⟩ (by omega)
          have hst : ∀ k, k ≠ w.heap.size + 1 → (st6 wr (w.heap.size + 1) 0 ⟨xk, xa, xs, xn, .slice ma' mg.length mc', Value.slice (some ⟨w3.heap.size, 0, none⟩) n n⟩).heap[k]? = wr.heap[k]? := fun k hk => st6_blk hk
          have hss := st6_size wr (w.heap.size + 1) 0 ⟨xk, xa, xs, xn, .slice ma' mg.length mc', Value.slice (some ⟨w3.heap.size, 0, none⟩) n n⟩
          have hBl := below_st6 (o := 0) (x := ⟨xk, xa, xs, xn, .slice ma' mg.length mc', Value.slice (some ⟨w3.heap.size, 0, none⟩) n n⟩) (g := w.heap.size + 1) (Below.refl w.heap.size wr) (by omega)
          simp only [st6, Nat.zero_add] at hA hst hss hBl
          generalize (((((wr.setCell ⟨w.heap.size + 1, 0, none⟩ (.int .i64 xk)).setCell ⟨w.heap.size + 1, 1, none⟩ (.int .i64 xa)).setCell ⟨w.heap.size + 1, 2, none⟩ (.string xs)).setCell ⟨w.heap.size + 1, 3, none⟩ (.bool xn)).setCell ⟨w.heap.size + 1, 4, none⟩ (.slice ma' mg.length mc')).setCell ⟨w.heap.size + 1, 5, none⟩ (Value.slice (some ⟨w3.heap.size, 0, none⟩) n n) = w6 at *
          obtain ⟨y0, y1, y2, y3, y4, y5⟩ := hA
          simp only [Nat.zero_add] at y1 y2 y3 y4 y5
          refine bodyPost_ret (v := .agg #[.int .i64 xk, .int .i64 xa, .string xs, .bool xn, .slice ma' mg.length mc', Value.slice (some ⟨w3.heap.size, 0, none⟩) n n]) (by simp [results, Tryz.results33, go_sem, y0, y1, y2, y3, y4, y5]) rfl ?_
          have hD := HD.out
          have hP := HP.out
          have hPl := hP.lt
          have hDs := hD.size
          refine ⟨⟨xk, xa, xs, xn, .slice ma' mg.length mc', Value.slice (some ⟨w3.heap.size, 0, none⟩) n n⟩, rfl, ⟨rfl, rfl, rfl, rfl, ?_, zs, h, ?_, ?_, ?_, ?_, hD.hm, ?_, fun j hj => ?_⟩, ?_⟩
          · have hm4 : wr.ownsRow (w.heap.size + 2) 57 1 (.slice ma' mg.length mc') mg.length (mgl mg) := ownsS_same hP.m (fun b hb => hD.keep b (ownsS_base hP.m b hb).2 (fun e => owns_apart' hP.m hP.ks (by decide) b hb e))
            exact owns_mono (ownsS_same hm4 (fun b hb => hst b (by have := (ownsS_base hm4 b hb).1; omega))) (by omega)
          · have hr4 := hD.row
            rw [rw6_congr (fun j => if j < n then zs j else z0) zs n (fun j hj => if_pos hj)] at hr4
            exact owns_mono (ownsS_same hr4 (fun b hb => hst b (by have := (ownsS_base hr4 b hb).1; omega))) (by omega)
          · intro b hb
            rw [hD.h0]
            exact (ownsS_base hP.m b hb).2
          · intro b hb
            rw [hD.h0]
            exact (ownsS_base hP.ks b hb).2
          · rw [hD.h0]; omega
          · rw [hss]; exact hD.hi
          · refine (hD.kids j hj).same (fun b hb1 hb2 => hst b ?_)
            have := h_mono hD.hm (Nat.zero_le j) (Nat.le_of_lt hj)
            rw [hD.h0] at this
            omega
          · refine ⟨hBl.os.trans (hD.os.trans hP.b.os), hBl.tape.trans (hD.tape.trans hP.b.tape), hBl.output.trans (hD.output.trans hP.b.output), by rw [hss]; have := hP.b.size; omega, fun k hk => ?_⟩
            rw [hst k (by omega), hD.keep k (by omega) (fun e => by have := (ownsS_base hP.ks _ e).1; omega), hP.b.block k hk]
end Nd
end Go.Proofs.YtfcgogpnbmikmaaGreatDoor
