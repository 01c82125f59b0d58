/-
  tree.All: what it gives.
-/
import Derived.Test.YtfcgogpnbmikmaaGreatDoorNdFlat
namespace Go.Proofs.YtfcgogpnbmikmaaGreatDoor
open Go.RowKit Go.WideShapes
namespace Nd
open Lx

set_option maxRecDepth 100000 in
theorem all_new {ok : Nat → Prop} (t : Tr) (x : Nv) (w : World) (hR : Rd w ok t x) (hwt : wt t ≤ 3000) (hok : ∀ b, ok b → b < w.heap.size) :
    Calls Tryz.prog 20 #[x.v] w fun e w' => ∃ (y : Nv) (q : Nat), e = .returned (.func (.func 34) #[] #[.pointer (some ⟨q, 0, none⟩)]) ∧ At w' q 0 y ∧ Ow w' t (w.heap.size + 1) q y ∧ w.heap.size < q ∧ Below w.heap.size w w' := by
  obtain ⟨⟨ma, mn, mc, hm⟩, ⟨ka, kn, kc, hk⟩⟩ := hR.shape
  obtain ⟨xk, xa, xs, xn, xm, xkv⟩ := x
  simp only at hm hk
  subst hm
  subst hk
  obtain ⟨W, hW⟩ : ∃ W, w.alloc (.cells #[.int .i64 xk, .int .i64 xa, .string xs, .bool xn, .slice ma mn mc, .slice ka kn kc] 27) = W := ⟨_, rfl⟩
  have hbW : Below w.heap.size w W := by rw [← hW]; exact (Below.refl _ w).alloc (Nat.le_refl _) _
  have hN : At W w.heap.size 0 ⟨xk, xa, xs, xn, .slice ma mn mc, .slice ka kn kc⟩ := by rw [← hW]; exact at_alloc w ⟨xk, xa, xs, xn, .slice ma mn mc, .slice ka kn kc⟩
  have hsW : W.heap.size = w.heap.size + 1 := by rw [← hW]; simp
  have C1 := dup_any t ⟨xk, xa, xs, xn, .slice ma mn mc, .slice ka kn kc⟩ W (hR.same (fun b hb => hbW.block b (hok b hb))) hwt (fun b hb => by have := hok b hb; omega)
  simp only [Nv.v] at C1 ⊢
  have HBW := Lib.hid hbW
  have HSW := Lib.hid hsW
  obtain ⟨n0, n1, n2, n3, n4, n5⟩ := hN.cells
  clear hR hbW hN hok hsW
  go_enter Tryz.func20, Tryz.ntmps20
  go_wp2_with fail
  refine C1.mono ?_
  rintro e w2 ⟨y, rfl, ho, hb2⟩
  obtain ⟨⟨qa, qn, qc, hqm⟩, ⟨ra, rn, rc, hrk⟩⟩ := ho.rd.shape
  obtain ⟨yk, ya, ys, yn, ym, yv⟩ := y
  simp only at hqm hrk
  subst hqm
  subst hrk
  simp only
  have HO := Lib.hid ho
  have HB2 := Lib.hid hb2
  clear C1 ho hb2 n0 n1 n2 n3 n4 n5
  go_wp2_with fail
  go_ret
  have hs := HSW.out
  have hsz := HB2.out.size
  have ho := HO.out
  rw [hs] at ho
  refine ⟨⟨yk, ya, ys, yn, .slice qa qn qc, .slice ra rn rc⟩, w2.heap.size, rfl, at_alloc w2 ⟨yk, ya, ys, yn, .slice qa qn qc, .slice ra rn rc⟩, ho.same (fun b _ h2 => Below.heap_alloc _ _ _ h2), by omega, ?_⟩
  exact (HBW.out.trans (HB2.out.mono HBW.out.size)).alloc (by omega) _
end Nd
end Go.Proofs.YtfcgogpnbmikmaaGreatDoor
