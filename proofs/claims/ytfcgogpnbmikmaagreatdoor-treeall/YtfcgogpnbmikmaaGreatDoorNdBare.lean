/-
  TreeBare: the law's walk.
-/
import Derived.Test.YtfcgogpnbmikmaaGreatDoorNdAwake
import Derived.Test.YtfcgogpnbmikmaaGreatDoorNdSpoil
namespace Go.Proofs.YtfcgogpnbmikmaaGreatDoor
open Go.RowKit Go.WideShapes
namespace Nd
open Lx

theorem At.cells {w : World} {b : Nat} {xk xa : Int} {xs : ByteArray} {xn : Bool} {xm xv : Value} (h : At w b 0 ⟨xk, xa, xs, xn, xm, xv⟩) : w.cell? ⟨b, 0, none⟩ = some (.int .i64 xk) ∧ w.cell? ⟨b, 1, none⟩ = some (.int .i64 xa) ∧ w.cell? ⟨b, 2, none⟩ = some (.string xs) ∧ w.cell? ⟨b, 3, none⟩ = some (.bool xn) ∧ w.cell? ⟨b, 4, none⟩ = some xm ∧ w.cell? ⟨b, 5, none⟩ = some xv := ⟨h.c0, h.c1, h.c2, h.c3, h.c4, h.c5⟩
theorem At.below {w w' : World} {b o : Nat} {x : Nv} (h : At w b o x) (hb : Below w.heap.size w w') : At w' b o x := h.same (hb.block b h.lt)
set_option maxRecDepth 100000 in
set_option maxHeartbeats 8000000 in
theorem bare_walk (t : Tr) (x : Nv) (w : World) (hR : Rd w (fun b => b < w.heap.size) t x) (hz : Sz t) :
    Calls Tryz.prog 5 #[x.v] w fun e w' => e = .returned (.bool true) ∧ Below w.heap.size w w' := by
  obtain ⟨⟨ma, mn, mc, hm⟩, ⟨ka, kn, kc, hk⟩⟩ := hR.shape
  obtain ⟨xk, xa, xs, xn, xm, xkv⟩ := x
  simp only at hm hk
  subst hm
  subst hk
  obtain ⟨W, hW⟩ : ∃ W, w.alloc (.cells #[.int .i64 xk, .int .i64 xa, .string xs, .bool xn, .slice ma mn mc, .slice ka kn kc] 27) = W := ⟨_, rfl⟩
  have hbW : Below w.heap.size w W := by rw [← hW]; exact (Below.refl _ w).alloc (Nat.le_refl _) _
  have hN : At W w.heap.size 0 ⟨xk, xa, xs, xn, .slice ma mn mc, .slice ka kn kc⟩ := by rw [← hW]; exact at_alloc w ⟨xk, xa, xs, xn, .slice ma mn mc, .slice ka kn kc⟩
  have hsW : W.heap.size = w.heap.size + 1 := by rw [← hW]; simp
  have HR : Hid (∀ V, Below w.heap.size w V → Rd V (fun b => b < w.heap.size) t ⟨xk, xa, xs, xn, .slice ma mn mc, .slice ka kn kc⟩) := fun V hV => hR.same (fun b hb => hV.block b hb)
  have C1 := large_any t ⟨xk, xa, xs, xn, .slice ma mn mc, .slice ka kn kc⟩ W (HR.out W hbW) hz (fun b hb => by omega)
  simp only [Nv.v] at C1 ⊢
  have HN := Lib.hid hN
  have HBW := Lib.hid hbW
  obtain ⟨n0, n1, n2, n3, n4, n5⟩ := hN.cells
  clear hR hbW hN hz
  go_enter Tryz.func5, Tryz.ntmps5
  go_wp2_with fail
  refine C1.mono ?_
  rintro e w1 ⟨rfl, hb1⟩
  have hN1 := HN.out.below hb1
  have HB1 := Lib.hid (HBW.out.trans (hb1.mono HBW.out.size))
  have HN1 := Lib.hid hN1
  clear C1 hb1 n0 n1 n2 n3 n4 n5
  by_cases hl : 3000 < wt t
  · have CA := awake14_any w1
    have dl : decide (3000 < wt t) = true := decide_eq_true hl
    clear hN1
    go_wp2_with fail
    refine CA.mono ?_
    rintro e w2 ⟨rfl, hb2⟩
    have HB2 := Lib.hid (HB1.out.trans (hb2.mono HB1.out.size))
    clear CA hb2
    go_wp2_with fail
    go_ret
    exact ⟨rfl, HB2.out⟩
  · have dl : decide (3000 < wt t) = false := decide_eq_false hl
    have hwt : wt t ≤ 3000 := by omega
    have hs1 : w.heap.size < w1.heap.size := hN1.lt
    have C2 := copied_any t ⟨xk, xa, xs, xn, .slice ma mn mc, .slice ka kn kc⟩ w1 (HR.out w1 HB1.out) hwt (fun b hb => by omega)
    simp only [Nv.v] at C2
    obtain ⟨n0, n1, n2, n3, n4, n5⟩ := hN1.cells
    have HS1 := Lib.hid hs1
    have HWT := Lib.hid hwt
    clear hs1 hN1 hwt
    go_wp2_with fail
    refine C2.mono ?_
    rintro e w2 ⟨y, rfl, hy2, hb2⟩
    obtain ⟨⟨qa, qn, qc, hqm⟩, ⟨ra, rn, rc, hrk⟩⟩ := hy2.shape
    obtain ⟨yk, ya, ys, yn, ym, yv⟩ := y
    simp only at hqm hrk
    subst hqm
    subst hrk
    simp only
    have HN2 := Lib.hid (HN1.out.below hb2)
    have HB2 := Lib.hid (HB1.out.trans (hb2.mono HB1.out.size))
    obtain ⟨W3, hW3⟩ : ∃ W, w2.alloc (.cells #[.int .i64 yk, .int .i64 ya, .string ys, .bool yn, .slice qa qn qc, .slice ra rn rc] 27) = W := ⟨_, rfl⟩
    have hb3 : Below w2.heap.size w2 W3 := by rw [← hW3]; exact (Below.refl _ w2).alloc (Nat.le_refl _) _
    have hY3 : At W3 w2.heap.size 0 ⟨yk, ya, ys, yn, .slice qa qn qc, .slice ra rn rc⟩ := by rw [← hW3]; exact at_alloc w2 ⟨yk, ya, ys, yn, .slice qa qn qc, .slice ra rn rc⟩
    have HB3 := Lib.hid (HB2.out.trans (hb3.mono HB2.out.size))
    have HN3 := Lib.hid (HN2.out.below hb3)
    have hs2 := hb2.size
    have HRY : Hid (∀ V, Below W3.heap.size W3 V → Rd V (fun b => w1.heap.size ≤ b ∧ b < w2.heap.size) t ⟨yk, ya, ys, yn, .slice qa qn qc, .slice ra rn rc⟩) := fun V hV => hy2.same (fun b hb => (hV.block b (by have := hb3.size; omega)).trans (hb3.block b hb.2))
    have C4 := bare_any t ⟨yk, ya, ys, yn, .slice qa qn qc, .slice ra rn rc⟩ W3 (HRY.out W3 (Below.refl _ _)) HWT.out (fun b hb => by have := hb3.size; omega)
    simp only [Nv.v] at C4
    have HY3 := Lib.hid hY3
    have HS2 := Lib.hid (show w1.heap.size ≤ w2.heap.size ∧ w2.heap.size < W3.heap.size from ⟨hs2, hY3.lt⟩)
    obtain ⟨y0, y1, y2, y3, y4, y5⟩ := hY3.cells
    clear C2 hy2 hb2 hb3 hY3 hs2 n0 n1 n2 n3 n4 n5
    go_wp2_with fail
    refine C4.mono ?_
    rintro e w4 ⟨a, rfl, ha4, hb4⟩
    obtain ⟨⟨aa, an, ac, ham⟩, ⟨ca, cn, cc, hck⟩⟩ := ha4.rd.shape
    obtain ⟨ak, aat, as_, ann, am, av⟩ := a
    simp only at ham hck
    subst ham
    subst hck
    simp only
    obtain ⟨W5, hW5⟩ : ∃ W, w4.alloc (.cells #[.int .i64 ak, .int .i64 aat, .string as_, .bool ann, .slice aa an ac, .slice ca cn cc] 27) = W := ⟨_, rfl⟩
    have hb5 : Below w4.heap.size w4 W5 := by rw [← hW5]; exact (Below.refl _ w4).alloc (Nat.le_refl _) _
    have hA5 : At W5 w4.heap.size 0 ⟨ak, aat, as_, ann, .slice aa an ac, .slice ca cn cc⟩ := by rw [← hW5]; exact at_alloc w4 ⟨ak, aat, as_, ann, .slice aa an ac, .slice ca cn cc⟩
    have b35 : Below W3.heap.size W3 W5 := hb4.trans (hb5.mono hb4.size)
    have HB5 := Lib.hid (HB3.out.trans (b35.mono HB3.out.size))
    have HN5 := Lib.hid (HN3.out.below b35)
    have HY5 := Lib.hid (HY3.out.below b35)
    have HA5 := Lib.hid hA5
    have HOA : Hid (∀ V, Below W5.heap.size W5 V → Ow V (bare t) W3.heap.size w4.heap.size ⟨ak, aat, as_, ann, .slice aa an ac, .slice ca cn cc⟩) := fun V hV => ha4.same (fun b h1 h2 => (hV.block b (by have := hb5.size; omega)).trans (hb5.block b h2))
    have HRY5 : Hid (∀ V, Below W5.heap.size W5 V → Rd V (fun b => w1.heap.size ≤ b ∧ b < w2.heap.size) t ⟨yk, ya, ys, yn, .slice qa qn qc, .slice ra rn rc⟩) := fun V hV => HRY.out V (b35.trans (hV.mono b35.size))
    have HS4 := Lib.hid (show W3.heap.size ≤ w4.heap.size ∧ w4.heap.size < W5.heap.size from ⟨hb4.size, hA5.lt⟩)
    have C6 := bare_any t ⟨yk, ya, ys, yn, .slice qa qn qc, .slice ra rn rc⟩ W5 (HRY5.out W5 (Below.refl _ _)) HWT.out (fun b hb => by have := HS2.out; have := HS4.out; omega)
    simp only [Nv.v] at C6
    clear C4 ha4 hb4 hb5 hA5 b35 y0 y1 y2 y3 y4 y5
    obtain ⟨y0, y1, y2, y3, y4, y5⟩ := HY5.out.cells
    go_wp2_with fail
    refine C6.mono ?_
    rintro e w6 ⟨b, rfl, hb6o, hb6⟩
    obtain ⟨⟨ba, bn, bc, hbm⟩, ⟨da, dn, dc, hdk⟩⟩ := hb6o.rd.shape
    obtain ⟨bk, bat, bs, bnn, bm, bv⟩ := b
    simp only at hbm hdk
    subst hbm
    subst hdk
    simp only
    obtain ⟨W7, hW7⟩ : ∃ W, w6.alloc (.cells #[.int .i64 bk, .int .i64 bat, .string bs, .bool bnn, .slice ba bn bc, .slice da dn dc] 27) = W := ⟨_, rfl⟩
    have hb7 : Below w6.heap.size w6 W7 := by rw [← hW7]; exact (Below.refl _ w6).alloc (Nat.le_refl _) _
    have hE7 : At W7 w6.heap.size 0 ⟨bk, bat, bs, bnn, .slice ba bn bc, .slice da dn dc⟩ := by rw [← hW7]; exact at_alloc w6 ⟨bk, bat, bs, bnn, .slice ba bn bc, .slice da dn dc⟩
    have b57 : Below W5.heap.size W5 W7 := hb6.trans (hb7.mono hb6.size)
    have HB7 := Lib.hid (HB5.out.trans (b57.mono HB5.out.size))
    have HN7 := Lib.hid (HN5.out.below b57)
    have HY7 := Lib.hid (HY5.out.below b57)
    have HA7 := Lib.hid (HA5.out.below b57)
    have HE7 := Lib.hid hE7
    have HOA7 : Hid (∀ V, Below W7.heap.size W7 V → Ow V (bare t) W3.heap.size w4.heap.size ⟨ak, aat, as_, ann, .slice aa an ac, .slice ca cn cc⟩) := fun V hV => HOA.out V (b57.trans (hV.mono b57.size))
    have HRY7 : Hid (∀ V, (∀ b, b < w2.heap.size → V.heap[b]? = W7.heap[b]?) → Rd V (fun b => w1.heap.size ≤ b ∧ b < w2.heap.size) t ⟨yk, ya, ys, yn, .slice qa qn qc, .slice ra rn rc⟩) := fun V hV => (HRY5.out W7 b57).same (fun b hb => hV b hb.2)
    have HOB7 : Hid (∀ V, (∀ b, W5.heap.size ≤ b → b < w6.heap.size → V.heap[b]? = W7.heap[b]?) → Ow V (bare t) W5.heap.size w6.heap.size ⟨bk, bat, bs, bnn, .slice ba bn bc, .slice da dn dc⟩) := fun V hV => hb6o.same (fun b h1 h2 => (hV b h1 h2).trans (hb7.block b h2))
    have HS6 := Lib.hid (show W5.heap.size ≤ w6.heap.size ∧ w6.heap.size < W7.heap.size from ⟨hb6.size, hE7.lt⟩)
    have HWB := Lib.hid (show wt (bare t) ≤ 3000 by rw [wt_bare]; exact HWT.out)
    have C8 := same_any false (bare t) t ⟨ak, aat, as_, ann, .slice aa an ac, .slice ca cn cc⟩ ⟨xk, xa, xs, xn, .slice ma mn mc, .slice ka kn kc⟩ W7 (HOA7.out W7 (Below.refl _ _)).rd (HR.out W7 HB7.out) (bare_lk t) HWB.out (fun b hb => by have := HS4.out; have := HS6.out; omega) (fun b hb => by have := HS1.out; have := HS2.out; have := HS4.out; have := HS6.out; omega)
    simp only [Nv.v] at C8
    clear C6 hb6o hb6 hb7 hE7 b57 y0 y1 y2 y3 y4 y5
    obtain ⟨n0, n1, n2, n3, n4, n5⟩ := HN7.out.cells
    obtain ⟨a0, a1, a2, a3, a4, a5⟩ := HA7.out.cells
    go_wp2_with fail
    refine C8.mono ?_
    rintro e w8 ⟨rfl, hb8⟩
    have C9 := none_any t ⟨ak, aat, as_, ann, .slice aa an ac, .slice ca cn cc⟩ w8 (HOA7.out w8 hb8).rd HWT.out (fun b hb => by have := HS4.out; have := HS6.out; have := hb8.size; omega)
    simp only [Nv.v] at C9
    have HB8 := Lib.hid hb8
    clear C8 hb8 n0 n1 n2 n3 n4 n5 a0 a1 a2 a3 a4 a5
    obtain ⟨a0, a1, a2, a3, a4, a5⟩ := (HA7.out.below HB8.out).cells
    go_wp2_with fail
    refine C9.mono ?_
    rintro e w9 ⟨rfl, hb9⟩
    have HB9 := Lib.hid (HB8.out.trans (hb9.mono HB8.out.size))
    clear C9 hb9 a0 a1 a2 a3 a4 a5
    have C10 := spoil_any (bare t) ⟨ak, aat, as_, ann, .slice aa an ac, .slice ca cn cc⟩ w9 W3.heap.size w4.heap.size (HOA7.out w9 HB9.out) HWB.out (by have := HS4.out; have := HS6.out; have := HB9.out.size; omega)
    simp only [Nv.v] at C10
    obtain ⟨a0, a1, a2, a3, a4, a5⟩ := (HA7.out.below HB9.out).cells
    go_wp2_with fail
    refine C10.mono ?_
    rintro e wA ⟨rfl, hfr⟩
    have hs9 := HB9.out.size
    have hk : ∀ b, b < W7.heap.size → ¬ (W3.heap.size ≤ b ∧ b < w4.heap.size) → wA.heap[b]? = W7.heap[b]? := fun b h1 h2 => (hfr.out b (by omega) h2).trans (HB9.out.block b h1)
    have sz2 := HS2.out
    have sz4 := HS4.out
    have sz6 := HS6.out
    have sz1 := HS1.out
    have szA : W7.heap.size ≤ wA.heap.size := by have := hfr.size; omega
    have hBA : Below w.heap.size w wA := by
      have h1 := HB7.out
      exact ⟨hfr.os.trans (HB9.out.os.trans h1.os), hfr.tape.trans (HB9.out.tape.trans h1.tape), hfr.output.trans (HB9.out.output.trans h1.output), by have := h1.size; omega, fun b hb => (hk b (by omega) (by omega)).trans (h1.block b hb)⟩
    have HNA := Lib.hid (HN7.out.same (hk w.heap.size (by omega) (by omega)))
    have HYA := Lib.hid (HY7.out.same (hk w2.heap.size (by omega) (by omega)))
    have HEA := Lib.hid (HE7.out.same (hk w6.heap.size (by omega) (by omega)))
    have HBA := Lib.hid hBA
    have HOBA : Hid (∀ V, Below wA.heap.size wA V → Ow V (bare t) W5.heap.size w6.heap.size ⟨bk, bat, bs, bnn, .slice ba bn bc, .slice da dn dc⟩) := fun V hV => HOB7.out V (fun b h1 h2 => (hV.block b (by omega)).trans (hk b (by omega) (by omega)))
    have HRYA : Hid (∀ V, Below wA.heap.size wA V → Rd V (fun b => w1.heap.size ≤ b ∧ b < w2.heap.size) t ⟨yk, ya, ys, yn, .slice qa qn qc, .slice ra rn rc⟩) := fun V hV => HRY7.out V (fun b h1 => (hV.block b (by omega)).trans (hk b (by omega) (by omega)))
    have HRA : Hid (∀ V, Below wA.heap.size wA V → Rd V (fun b => b < w.heap.size) t ⟨xk, xa, xs, xn, .slice ma mn mc, .slice ka kn kc⟩) := fun V hV => HR.out V (hBA.trans (hV.mono hBA.size))
    have HLT := Lib.hid (show w6.heap.size ≤ wA.heap.size ∧ w2.heap.size ≤ wA.heap.size ∧ w.heap.size ≤ wA.heap.size by omega)
    have C11 := same_any false (bare t) t ⟨bk, bat, bs, bnn, .slice ba bn bc, .slice da dn dc⟩ ⟨xk, xa, xs, xn, .slice ma mn mc, .slice ka kn kc⟩ wA (HOBA.out wA (Below.refl _ _)).rd (HRA.out wA (Below.refl _ _)) (bare_lk t) HWB.out (fun b hb => by have := HLT.out; omega) (fun b hb => by have := HLT.out; omega)
    simp only [Nv.v] at C11
    clear C10 hfr hs9 hk sz2 sz4 sz6 sz1 szA hBA a0 a1 a2 a3 a4 a5
    obtain ⟨n0, n1, n2, n3, n4, n5⟩ := HNA.out.cells
    obtain ⟨e0, e1, e2, e3, e4, e5⟩ := HEA.out.cells
    go_wp2_with fail
    refine C11.mono ?_
    rintro e wB ⟨rfl, hbB⟩
    have HBB := Lib.hid hbB
    have C12 := none_any t ⟨bk, bat, bs, bnn, .slice ba bn bc, .slice da dn dc⟩ wB (HOBA.out wB hbB).rd HWT.out (fun b hb => by have := HLT.out; have := HBB.out.size; omega)
    simp only [Nv.v] at C12
    clear C11 hbB n0 n1 n2 n3 n4 n5 e0 e1 e2 e3 e4 e5
    obtain ⟨e0, e1, e2, e3, e4, e5⟩ := (HEA.out.below HBB.out).cells
    go_wp2_with fail
    refine C12.mono ?_
    rintro e wC ⟨rfl, hbC⟩
    have HBC := Lib.hid (HBB.out.trans (hbC.mono HBB.out.size))
    have C13 := same_any true t t ⟨yk, ya, ys, yn, .slice qa qn qc, .slice ra rn rc⟩ ⟨xk, xa, xs, xn, .slice ma mn mc, .slice ka kn kc⟩ wC (HRYA.out wC HBC.out) (HRA.out wC HBC.out) (Lk.refl true t) HWT.out (fun b hb => by have := HLT.out; have := HBC.out.size; omega) (fun b hb => by have := HLT.out; have := HBC.out.size; omega)
    simp only [Nv.v] at C13
    clear C12 hbC e0 e1 e2 e3 e4 e5
    obtain ⟨n0, n1, n2, n3, n4, n5⟩ := (HNA.out.below HBC.out).cells
    obtain ⟨y0, y1, y2, y3, y4, y5⟩ := (HYA.out.below HBC.out).cells
    go_wp2_with fail
    refine C13.mono ?_
    rintro e wD ⟨rfl, hbD⟩
    have HBD := Lib.hid (HBC.out.trans (hbD.mono HBC.out.size))
    have C14 := awake14_any wD
    clear C13 hbD n0 n1 n2 n3 n4 n5 y0 y1 y2 y3 y4 y5
    go_wp2_with fail
    refine C14.mono ?_
    rintro e wE ⟨rfl, hbE⟩
    have HBE := Lib.hid (HBD.out.trans (hbE.mono HBD.out.size))
    clear C14 hbE
    go_wp2_with fail
    go_ret
    exact ⟨rfl, HBA.out.trans (HBE.out.mono HBA.out.size)⟩
end Nd
end Go.Proofs.YtfcgogpnbmikmaaGreatDoor
