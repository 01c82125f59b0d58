/-
  Size, Depth.
-/
import Derived.Test.YtfcgogpnbmikmaaGreatDoorNdSeq
import Derived.RangeFuncLeaves
namespace Go.Proofs.YtfcgogpnbmikmaaGreatDoor
open Go.RowKit Go.WideShapes
namespace Nd
open Lx
attribute [local go_sem] Oper.semAt_some

theorem Fl.same {w w' : World} {ok : Nat → Prop} (e : ∀ b, ok b → w'.heap[b]? = w.heap[b]?) {t : Tr} {x : Nv} {d : Nat} {L : List (Nat × Nv)} (h : Fl w ok t x d L) : Fl w' ok t x d L := by
  induction h with
  | mk h1 h2 h3 h4 h5 ih => exact .mk h1 h2 h3 (fun i hi => (h4 i hi).same (e _ (h3 (by omega)).2)) ih
/-- A walk with one number that is counted: k of the nodes are told. -/
structure Cn (w0 : World) (ok : Nat → Prop) (x : Nv) (v p k : Nat) (W : World) : Prop where
  b : Below w0.heap.size w0 W
  c : W.cell? ⟨v, 0, none⟩ = some (.int .i64 (k : Int))
  z : W.frozen? ⟨v, 0, none⟩ = false
  a : At W p 0 x
  o : ∀ b, ok b → W.heap[b]? = w0.heap[b]?
set_option maxRecDepth 100000 in
set_option maxHeartbeats 4000000 in
theorem size_any {ok : Nat → Prop} {t : Tr} {x : Nv} {L : List (Nat × Nv)} (w : World) (hF : Fl w ok t x 0 L) (hok : ∀ b, ok b → b < w.heap.size) (hL : L.length ≤ 200000) :
    Calls Tryz.prog 11 #[x.v] w fun e w' => e = .returned (.int .i64 (L.length : Int)) ∧ Below w.heap.size w w' := by
  obtain ⟨⟨ma, mn, mc, hm⟩, ⟨ka, kn, kc, hk⟩⟩ := hF.shape
  obtain ⟨xk, xa, xs, xn, xm, xkv⟩ := x
  simp only at hm hk
  subst hm
  subst hk
  simp only [Nv.v]
  obtain ⟨A, hA⟩ : ∃ A : Nat → Nat × Nv, ∀ j, j < L.length → L[j]? = some (A j) := ⟨fun j => L.getD j (0, default), fun j hj => by simp [hj]⟩
  have CN := fun V => nodes_any ⟨xk, xa, xs, xn, .slice ma mn mc, .slice ka kn kc⟩ V
  simp only [Nv.v] at CN
  have HF := Lib.hid hF
  have HOK := Lib.hid hok
  have HA := Lib.hid hA
  clear hF hok hA
  refine callsIn_wide.1 (callsIn_of_wp_marks (n := 0) Tryz.func11 rfl trivial ?_ rfl)
  simp only [Tryz.ntmps11, List.size_toArray, List.length_cons, List.length_nil, Nat.reduceAdd, Nat.reduceSub, Array.replicate_succ, Array.replicate_zero, List.push_toArray, List.append_toArray, List.nil_append, List.cons_append]
  gi_wp2_with fail
  refine ⟨trivial, rfl, (callsIn_wide.2 (CN _)).mono ?_⟩
  rintro e w3 ⟨rfl, hw3⟩
  clear CN
  obtain ⟨W2, hW2⟩ : ∃ W2, (w.alloc (.cells #[.int .i64 xk, .int .i64 xa, .string xs, .bool xn, .slice ma mn mc, .slice ka kn kc] 27)).alloc (.cells #[.int .i64 0] 3) = W2 := ⟨_, rfl⟩
  rw [hW2] at hw3 ⊢
  have hs2 : W2.heap.size = w.heap.size + 2 := by rw [← hW2]; simp
  have hb2 : Below w.heap.size w W2 := by rw [← hW2]; exact ((Below.refl _ w).alloc (Nat.le_refl _) _).alloc (by simp) _
  have hc2 : W2.cell? ⟨w.heap.size + 1, 0, none⟩ = some (.int .i64 0) ∧ W2.frozen? ⟨w.heap.size + 1, 0, none⟩ = false := by
    have h := Blk.new (w.alloc (.cells #[.int .i64 xk, .int .i64 xa, .string xs, .bool xn, .slice ma mn mc, .slice ka kn kc] 27)) #[.int .i64 0] 3
    rw [hW2, World.size_alloc] at h
    exact ⟨h.c 0 (by simp), h.z 0⟩
  have hb3 : Below W2.heap.size W2 w3 := by rw [hw3]; exact (Below.refl _ W2).alloc (Nat.le_refl _) _
  have ha3 : At w3 W2.heap.size 0 ⟨xk, xa, xs, xn, .slice ma mn mc, .slice ka kn kc⟩ := by rw [hw3]; exact ⟨World.cell?_alloc_at _ _ _ _ rfl, World.cell?_alloc_at _ _ _ _ rfl, World.cell?_alloc_at _ _ _ _ rfl, World.cell?_alloc_at _ _ _ _ rfl, World.cell?_alloc_at _ _ _ _ rfl, World.cell?_alloc_at _ _ _ _ rfl⟩
  have hs3 : w3.heap.size = w.heap.size + 3 := by rw [hw3]; simp [hs2]
  have hbw3 := hb2.trans (hb3.mono hb2.size)
  have hC0 : Cn w ok ⟨xk, xa, xs, xn, .slice ma mn mc, .slice ka kn kc⟩ (w.heap.size + 1) W2.heap.size 0 w3 := ⟨hbw3, cell_keep hc2.1 hb3, (World.frozen?_of_block (a := ⟨w.heap.size + 1, 0, none⟩) (hb3.block (w.heap.size + 1) (by omega))).trans hc2.2, ha3, fun b hb => hbw3.block b (HOK.out b hb)⟩
  have hF3 : Fl w3 ok t ⟨xk, xa, xs, xn, .slice ma mn mc, .slice ka kn kc⟩ 0 L := HF.out.same hC0.o
  have HSQ := Lib.hid (nodes_seq W2.heap.size A hF3 (fun b hb => by have := HOK.out b hb; omega) hL HA.out ha3)
  have HC0 := Lib.hid hC0
  have HS3 := Lib.hid hs3
  have HS2 := Lib.hid hs2
  clear hw3 hs2 hb2 hc2 hb3 ha3 hs3 hbw3 hC0 hF3 hW2
  gi_wp2_with fail
  refine wpIn_range_at (fun l => { target := .fn (.func 37) #[.pointer (some ⟨W2.heap.size, 0, none⟩)], args := #[.func (.yield l) #[] #[]] }) (fun l W => by simp [resolve, Deferred.ofValue, go_sem, Act.eval]) (fun l W => by simp [invoke, go_sem, Tryz.call37])
    HSQ.out (fun _ => rfl) (fun k W => Cn w ok ⟨xk, xa, xs, xn, .slice ma mn mc, .slice ka kn kc⟩ (w.heap.size + 1) W2.heap.size k W) (fun _ _ _ => False) ?hI (fun _ _ _ _ h _ => h) (fun k W h => ⟨h.a, fun b hb => (h.o b hb).trans (HC0.out.o b hb).symm⟩) HC0.out
    (fun k => { tmps := #[.agg #[.int .i64 xk, .int .i64 xa, .string xs, .bool xn, .slice ma mn mc, .slice ka kn kc], .pointer (some ⟨w.heap.size, 0, none⟩), .int .i64 0, .pointer (some ⟨w.heap.size + 1, 0, none⟩), .agg #[.int .i64 xk, .int .i64 xa, .string xs, .bool xn, .slice ma mn mc, .slice ka kn kc], .func (.func 37) #[] #[.pointer (some ⟨W2.heap.size, 0, none⟩)], .int .i64 ((A k).1 : Int), (A k).2.v, undef, undef, undef], defers := [] }) ?assign ?body ?done (fun _ _ _ _ h _ => h.elim)
  case hI =>
    rintro k V V' ⟨x1, x2, x3, x4, x5⟩ hb
    have hs := HS3.out
    have hs2 := HS2.out
    refine ⟨x1.trans (hb.mono (by omega)), (hb.cell (p := ⟨w.heap.size + 1, 0, none⟩) (by show w.heap.size + 1 < _; omega)).trans x2, (World.frozen?_of_block (a := ⟨w.heap.size + 1, 0, none⟩) (hb.block (w.heap.size + 1) (by omega))).trans x3, x4.same (hb.block W2.heap.size (by omega)), fun b hbk => (hb.block b (by have := HOK.out b hbk; omega)).trans (x5 b hbk)⟩
  case assign =>
    intro l k W K hK
    simp only [enc]
    gi_wp2
    simp
    exact hK
  case body =>
    rintro l k W hk ⟨x1, x2, x3, x4, x5⟩
    have hs := HS3.out
    have hs2 := HS2.out
    have e1 : IntKind.i64.wrap ((k : Int) + 1) = ((k + 1 : Nat) : Int) := by rw [i64_small (by omega) (by omega)]; omega
    have H4 := Lib.hid x4
    have H5 := Lib.hid x5
    have H1 := Lib.hid x1
    have H2 := Lib.hid x2
    have H3 := Lib.hid x3
    clear x4 x5 x1
    gi_wp2_with fail
    refine ⟨(Since.refl _ W).setCell (p := ⟨w.heap.size + 1, 0, none⟩) (by show w.heap.size + 1 < _; omega) _, ?_⟩
    refine ⟨H1.out.setCell (p := ⟨w.heap.size + 1, 0, none⟩) (by show w.heap.size ≤ w.heap.size + 1; omega) _, ?_, by rw [World.frozen?_setCell]; exact H3.out, H4.out.same (setCell_blk (by omega)), fun b hb => (setCell_blk (by have := HOK.out b hb; omega)).trans (H5.out b hb)⟩
    rw [World.cell?_setCell_same' _ _ _ (by rw [H2.out]; rfl)]
    congr 2
  case done =>
    rintro W ⟨x1, x2, x3, x4, x5⟩ hK
    have H1 := Lib.hid x1
    clear x4 x5 x1
    gi_wp2_with fail
    refine ⟨by simp, .inl ⟨_, _, rfl, run_takeDeferred hK, ?_⟩⟩
    refine ⟨_, results_tmp rfl _ _ _, rfl, ?_⟩
    exact H1.out.trans (below_put (by have := HS3.out; omega))
/-- The greatest depth so far. -/
def mx (A : Nat → Nat × Nv) : Nat → Nat
  | 0 => 0
  | n + 1 => max (mx A n) ((A n).1 + 1)
set_option maxRecDepth 100000 in
set_option maxHeartbeats 4000000 in
theorem depth_any {ok : Nat → Prop} {t : Tr} {x : Nv} {L : List (Nat × Nv)} (w : World) (hF : Fl w ok t x 0 L) (hok : ∀ b, ok b → b < w.heap.size) (hL : L.length ≤ 200000) (A : Nat → Nat × Nv) (hA : ∀ j, j < L.length → L[j]? = some (A j)) (hD : ∀ j, j < L.length → (A j).1 ≤ 200000) :
    Calls Tryz.prog 10 #[x.v] w fun e w' => e = .returned (.int .i64 (mx A L.length : Int)) ∧ Below w.heap.size w w' := by
  obtain ⟨⟨ma, mn, mc, hm⟩, ⟨ka, kn, kc, hk⟩⟩ := hF.shape
  obtain ⟨xk, xa, xs, xn, xm, xkv⟩ := x
  simp only at hm hk
  subst hm
  subst hk
  simp only [Nv.v]
  have CN := fun V => nodes_any ⟨xk, xa, xs, xn, .slice ma mn mc, .slice ka kn kc⟩ V
  simp only [Nv.v] at CN
  have HF := Lib.hid hF
  have HOK := Lib.hid hok
  have HA := Lib.hid hA
  have HD := Lib.hid hD
  clear hF hok hA hD
  refine callsIn_wide.1 (callsIn_of_wp_marks (n := 0) Tryz.func10 rfl trivial ?_ rfl)
  simp only [Tryz.ntmps10, List.size_toArray, List.length_cons, List.length_nil, Nat.reduceAdd, Nat.reduceSub, Array.replicate_succ, Array.replicate_zero, List.push_toArray, List.append_toArray, List.nil_append, List.cons_append]
  gi_wp2_with fail
  refine ⟨trivial, rfl, (callsIn_wide.2 (CN _)).mono ?_⟩
  rintro e w3 ⟨rfl, hw3⟩
  clear CN
  obtain ⟨W2, hW2⟩ : ∃ W2, (w.alloc (.cells #[.int .i64 xk, .int .i64 xa, .string xs, .bool xn, .slice ma mn mc, .slice ka kn kc] 27)).alloc (.cells #[.int .i64 0] 3) = W2 := ⟨_, rfl⟩
  rw [hW2] at hw3 ⊢
  have hs2 : W2.heap.size = w.heap.size + 2 := by rw [← hW2]; simp
  have hb2 : Below w.heap.size w W2 := by rw [← hW2]; exact ((Below.refl _ w).alloc (Nat.le_refl _) _).alloc (by simp) _
  have hc2 : W2.cell? ⟨w.heap.size + 1, 0, none⟩ = some (.int .i64 0) ∧ W2.frozen? ⟨w.heap.size + 1, 0, none⟩ = false := by
    have h := Blk.new (w.alloc (.cells #[.int .i64 xk, .int .i64 xa, .string xs, .bool xn, .slice ma mn mc, .slice ka kn kc] 27)) #[.int .i64 0] 3
    rw [hW2, World.size_alloc] at h
    exact ⟨h.c 0 (by simp), h.z 0⟩
  have hb3 : Below W2.heap.size W2 w3 := by rw [hw3]; exact (Below.refl _ W2).alloc (Nat.le_refl _) _
  have ha3 : At w3 W2.heap.size 0 ⟨xk, xa, xs, xn, .slice ma mn mc, .slice ka kn kc⟩ := by rw [hw3]; exact ⟨World.cell?_alloc_at _ _ _ _ rfl, World.cell?_alloc_at _ _ _ _ rfl, World.cell?_alloc_at _ _ _ _ rfl, World.cell?_alloc_at _ _ _ _ rfl, World.cell?_alloc_at _ _ _ _ rfl, World.cell?_alloc_at _ _ _ _ rfl⟩
  have hs3 : w3.heap.size = w.heap.size + 3 := by rw [hw3]; simp [hs2]
  have hbw3 := hb2.trans (hb3.mono hb2.size)
  have hC0 : Cn w ok ⟨xk, xa, xs, xn, .slice ma mn mc, .slice ka kn kc⟩ (w.heap.size + 1) W2.heap.size 0 w3 := ⟨hbw3, cell_keep hc2.1 hb3, (World.frozen?_of_block (a := ⟨w.heap.size + 1, 0, none⟩) (hb3.block (w.heap.size + 1) (by omega))).trans hc2.2, ha3, fun b hb => hbw3.block b (HOK.out b hb)⟩
  have hF3 : Fl w3 ok t ⟨xk, xa, xs, xn, .slice ma mn mc, .slice ka kn kc⟩ 0 L := HF.out.same hC0.o
  have HSQ := Lib.hid (nodes_seq W2.heap.size A hF3 (fun b hb => by have := HOK.out b hb; omega) hL HA.out ha3)
  have HC0 := Lib.hid hC0
  have HS3 := Lib.hid hs3
  have HS2 := Lib.hid hs2
  clear hw3 hs2 hb2 hc2 hb3 ha3 hs3 hbw3 hC0 hF3 hW2
  gi_wp2_with fail
  refine wpIn_range_at (fun l => { target := .fn (.func 37) #[.pointer (some ⟨W2.heap.size, 0, none⟩)], args := #[.func (.yield l) #[] #[]] }) (fun l W => by simp [resolve, Deferred.ofValue, go_sem, Act.eval]) (fun l W => by simp [invoke, go_sem, Tryz.call37])
    HSQ.out (fun _ => rfl) (fun k W => Cn w ok ⟨xk, xa, xs, xn, .slice ma mn mc, .slice ka kn kc⟩ (w.heap.size + 1) W2.heap.size (mx A k) W) (fun _ _ _ => False) ?hI (fun _ _ _ _ h _ => h) (fun k W h => ⟨h.a, fun b hb => (h.o b hb).trans (HC0.out.o b hb).symm⟩) HC0.out
    (fun k => { tmps := #[.agg #[.int .i64 xk, .int .i64 xa, .string xs, .bool xn, .slice ma mn mc, .slice ka kn kc], .pointer (some ⟨w.heap.size, 0, none⟩), .int .i64 0, .pointer (some ⟨w.heap.size + 1, 0, none⟩), .int .i64 ((A k).1 : Int), .agg #[.int .i64 xk, .int .i64 xa, .string xs, .bool xn, .slice ma mn mc, .slice ka kn kc], .func (.func 37) #[] #[.pointer (some ⟨W2.heap.size, 0, none⟩)], .int .i64 ((A k).1 : Int), (A k).2.v, undef, undef, undef, undef, undef], defers := [] }) ?assign ?body ?done (fun _ _ _ _ h _ => h.elim)
  case hI =>
    rintro k V V' ⟨x1, x2, x3, x4, x5⟩ hb
    have hs := HS3.out
    have hs2 := HS2.out
    refine ⟨x1.trans (hb.mono (by omega)), (hb.cell (p := ⟨w.heap.size + 1, 0, none⟩) (by show w.heap.size + 1 < _; omega)).trans x2, (World.frozen?_of_block (a := ⟨w.heap.size + 1, 0, none⟩) (hb.block (w.heap.size + 1) (by omega))).trans x3, x4.same (hb.block W2.heap.size (by omega)), fun b hbk => (hb.block b (by have := HOK.out b hbk; omega)).trans (x5 b hbk)⟩
  case assign =>
    intro l k W K hK
    simp only [enc]
    gi_wp2
    exact hK
  case body =>
    rintro l k W hk ⟨x1, x2, x3, x4, x5⟩
    have hdk := HD.out k hk
    have e1 : IntKind.i64.wrap (((A k).1 : Int) + 1) = ((A k).1 : Int) + 1 := i64_small (by omega) (by omega)
    have H4 := Lib.hid x4
    have H5 := Lib.hid x5
    have H1 := Lib.hid x1
    have H2 := Lib.hid x2
    have H3 := Lib.hid x3
    clear x4 x5 x1
    rcases Nat.lt_or_ge (mx A k) ((A k).1 + 1) with hlt | hge
    · have l1 : (mx A k : Int) < ((A k).1 : Int) + 1 := by omega
      gi_wp2_with fail
      all_goals
        first
        | (exfalso; omega)
        | skip
        have hs := HS3.out
        have hs2 := HS2.out
        refine ⟨(Since.refl _ W).setCell (p := ⟨w.heap.size + 1, 0, none⟩) (by show w.heap.size + 1 < _; omega) _, ?_⟩
        refine ⟨H1.out.setCell (p := ⟨w.heap.size + 1, 0, none⟩) (by show w.heap.size ≤ w.heap.size + 1; omega) _, ?_, by rw [World.frozen?_setCell]; exact H3.out, H4.out.same (setCell_blk (k := W2.heap.size) (g := w.heap.size + 1) (by omega)), fun b hb => (setCell_blk (by have := HOK.out b hb; omega)).trans (H5.out b hb)⟩
        rw [World.cell?_setCell_same' _ _ _ (by rw [H2.out]; rfl)]
        have hmx : (mx A (k + 1) : Int) = ((A k).1 : Int) + 1 := by simp only [mx]; omega
        rw [hmx]
    · have l1 : ¬ (mx A k : Int) < ((A k).1 : Int) + 1 := by omega
      gi_wp2_with fail
      all_goals
        first
        | (exfalso; omega)
        | skip
        have hs := HS3.out
        have hs2 := HS2.out
        refine ⟨(Since.refl _ W).setCell (p := ⟨w.heap.size + 1, 0, none⟩) (by show w.heap.size + 1 < _; omega) _, ?_⟩
        refine ⟨H1.out.setCell (p := ⟨w.heap.size + 1, 0, none⟩) (by show w.heap.size ≤ w.heap.size + 1; omega) _, ?_, by rw [World.frozen?_setCell]; exact H3.out, H4.out.same (setCell_blk (k := W2.heap.size) (g := w.heap.size + 1) (by omega)), fun b hb => (setCell_blk (by have := HOK.out b hb; omega)).trans (H5.out b hb)⟩
        rw [World.cell?_setCell_same' _ _ _ (by rw [H2.out]; rfl)]
        have hmx : (mx A (k + 1) : Int) = (mx A k : Int) := by simp only [mx]; omega
        rw [hmx]
  case done =>
    rintro W ⟨x1, x2, x3, x4, x5⟩ hK
    have H1 := Lib.hid x1
    clear x4 x5 x1
    gi_wp2_with fail
    refine ⟨by simp, .inl ⟨_, _, rfl, run_takeDeferred hK, ?_⟩⟩
    refine ⟨_, results_tmp rfl _ _ _, rfl, ?_⟩
    exact H1.out.trans (below_put (by have := HS3.out; omega))
end Nd
end Go.Proofs.YtfcgogpnbmikmaaGreatDoor
