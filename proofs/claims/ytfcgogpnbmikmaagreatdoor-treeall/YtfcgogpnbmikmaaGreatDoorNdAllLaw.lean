/-
  TreeAll: the law's walk.
-/
import Derived.Test.YtfcgogpnbmikmaaGreatDoorNdGoes2
import Derived.Test.YtfcgogpnbmikmaaGreatDoorNdAwake
namespace Go.Proofs.YtfcgogpnbmikmaaGreatDoor
open Go.RowKit Go.WideShapes
namespace Nd
open Lx

theorem nl_get : ∀ (L : List (Nat × Nv)) (j i : Nat) (p : Nat × Nv), L[j]? = some p → i < 6 → (nl L)[j * 6 + i]? = p.2.c[i]?
  | [], j, i, p, h, _ => by simp at h
  | a :: L, 0, i, p, h, hi => by
    simp at h
    subst h
    have e : nl (a :: L) = a.2.c ++ nl L := by simp [nl]
    rw [e, List.getElem?_append_left (by simp [Nv.c]; omega)]
    simp
  | a :: L, j + 1, i, p, h, hi => by
    have e : nl (a :: L) = a.2.c ++ nl L := by simp [nl]
    have hc : a.2.c.length = 6 := rfl
    rw [e, List.getElem?_append_right (by omega), hc, show (j + 1) * 6 + i - 6 = j * 6 + i by omega]
    exact nl_get L j i p (by simpa using h) hi
theorem Fw.at_ {w : World} {B lb ab n lc ac : Nat} {L : List (Nat × Nv)} (h : Fw w B (.slice (some ⟨lb, 0, none⟩) n lc) (.slice (some ⟨ab, 0, none⟩) n ac) L) (hn : n = L.length) (j : Nat) (p : Nat × Nv) (hp : L[j]? = some p) : At w lb (j * 6) p.2 ∧ w.cell? ⟨ab, j, none⟩ = some (.int .i64 (p.1 : Int)) := by
  subst hn
  have hj : j < L.length := (List.getElem?_eq_some_iff.1 hp).1
  have k : ∀ i, i < 6 → w.cell? ⟨lb, j * 6 + i, none⟩ = p.2.c[i]? := fun i hi => by rw [h.l.cellAt (j * 6 + i) (by omega)]; exact nl_get L j i p hp hi
  refine ⟨⟨k 0 (by omega), k 1 (by omega), k 2 (by omega), k 3 (by omega), k 4 (by omega), k 5 (by omega)⟩, ?_⟩
  rw [h.a.cellAt j (by omega)]
  simp [dl, hp]
theorem Fw.open_ {w : World} {B : Nat} {lv av : Value} {L : List (Nat × Nv)} (h : Fw w B lv av L) (hn : 1 ≤ L.length) : ∃ lb lc ab ac, lv = .slice (some ⟨lb, 0, none⟩) L.length lc ∧ av = .slice (some ⟨ab, 0, none⟩) L.length ac ∧ lb < w.heap.size ∧ ab < w.heap.size := by
  rcases h.l.2 with ⟨_, h0⟩ | ⟨g, c, cur, e1, _, h1, _⟩
  · omega
  rcases h.a.2 with ⟨_, h0⟩ | ⟨g2, c2, cur2, e2, _, h2, _⟩
  · omega
  exact ⟨g, c, g2, c2, e1, e2, (Array.getElem?_eq_some_iff.1 h1).1, (Array.getElem?_eq_some_iff.1 h2).1⟩
theorem Gr.below {w w' : World} {lv av : Value} (h : Gr w w' (.slice none 0 0) (.slice none 0 0) lv av) : Below w.heap.size w w' := ⟨h.os, h.tape, h.output, h.size, fun k hk => h.blk k hk (by simp [Value.ownBlock]) (by simp [Value.ownBlock])⟩
set_option maxRecDepth 100000 in
set_option maxHeartbeats 8000000 in
theorem all_walk (t : Tr) (x : Nv) (stop : Int) (w : World) (hR : Rd w (fun b => b < w.heap.size) t x) (hz : Sz t) :
    Calls Tryz.prog 4 #[x.v, .int .i64 stop] w fun e w' => e = .returned (.bool true) ∧ Below w.heap.size w w' := by
  obtain ⟨⟨ma, mn, mc, hm⟩, ⟨ka, kn, kc, hk⟩⟩ := hR.shape
  obtain ⟨xk, xa, xs, xn, xm, xkv⟩ := x
  simp only at hm hk
  subst hm
  subst hk
  obtain ⟨W, hW⟩ : ∃ W, w.alloc (.cells #[.int .i64 xk, .int .i64 xa, .string xs, .bool xn, .slice ma mn mc, .slice ka kn kc] 27) = W := ⟨_, rfl⟩
  have hbW : Below w.heap.size w W := by rw [← hW]; exact (Below.refl _ w).alloc (Nat.le_refl _) _
  have hN : At W w.heap.size 0 ⟨xk, xa, xs, xn, .slice ma mn mc, .slice ka kn kc⟩ := by rw [← hW]; exact at_alloc w ⟨xk, xa, xs, xn, .slice ma mn mc, .slice ka kn kc⟩
  have HR : Hid (∀ V, Below w.heap.size w V → Rd V (fun b => b < w.heap.size) t ⟨xk, xa, xs, xn, .slice ma mn mc, .slice ka kn kc⟩) := fun V hV => hR.same (fun b hb => hV.block b hb)
  have C1 := weight_any t ⟨xk, xa, xs, xn, .slice ma mn mc, .slice ka kn kc⟩ 300 W (HR.out W hbW) hz (fun b hb => by have := hbW.size; omega) (by omega) (by omega)
  simp only [Nv.v] at C1 ⊢
  have HN := Lib.hid hN
  have HBW := Lib.hid hbW
  obtain ⟨n0, n1, n2, n3, n4, n5⟩ := hN.cells
  clear hR hbW hN hz
  go_enter Tryz.func4, Tryz.ntmps4
  go_wp2_with fail
  refine C1.mono ?_
  rintro e w1 ⟨r, rfl, hr, hb1⟩
  have hN1 := HN.out.below hb1
  have HB1 := Lib.hid (HBW.out.trans (hb1.mono HBW.out.size))
  have HN1 := Lib.hid hN1
  clear C1 hb1 n0 n1 n2 n3 n4 n5
  by_cases hl : wt t ≤ 300
  case neg =>
    have CA := awake14_any w1
    have dl : 300 < r := hr.hi (by omega)
    clear hN1 hr
    go_wp2_with fail
    refine CA.mono ?_
    rintro e w2 ⟨rfl, hb2⟩
    have HB2 := Lib.hid (HB1.out.trans (hb2.mono HB1.out.size))
    clear CA hb2
    go_wp2_with fail
    go_ret
    exact ⟨rfl, HB2.out⟩
  case pos =>
    have hre := hr.lo (by omega)
    have dl : ¬ 300 < r := by omega
    have hs1 : w.heap.size < w1.heap.size := hN1.lt
    obtain ⟨L, hL⟩ := Rd.fl t ⟨xk, xa, xs, xn, .slice ma mn mc, .slice ka kn kc⟩ 0 (HR.out w1 HB1.out)
    have hlen := fl_len hL
    have hpos := hL.pos
    have C2 := flat_any (ok := fun b => b < w.heap.size) (B := w1.heap.size) (fun b hb => by omega) t ⟨xk, xa, xs, xn, .slice ma mn mc, .slice ka kn kc⟩ 0 L [] (.slice none 0 0) (.slice none 0 0) w1 hL (Nat.le_refl _) ⟨World.ownsRow_nil _ _ _ _, World.ownsRow_nil _ _ _ _⟩ (by simp; omega) (by omega)
    simp only [Nv.v, List.nil_append] at C2
    obtain ⟨n0, n1, n2, n3, n4, n5⟩ := hN1.cells
    have HL := Lib.hid hL
    have HZ := Lib.hid (show wt t ≤ 300 ∧ L.length ≤ wt t ∧ 1 ≤ L.length ∧ w.heap.size < w1.heap.size from ⟨hl, hlen, hpos, hs1⟩)
    clear hL hlen hpos hs1 hN1 hre hr hl
    go_wp2_with fail
    refine C2.mono ?_
    rintro e w2 ⟨lv, av, rfl, hFw, hGr⟩
    obtain ⟨lb, lc, ab, ac, rfl, rfl, hlb, hab⟩ := hFw.open_ HZ.out.2.2.1
    have hb2 := hGr.below
    have HN2 := Lib.hid (HN1.out.below hb2)
    have HB2 := Lib.hid (HB1.out.trans (hb2.mono HB1.out.size))
    have HL2 : Hid (∀ V, Below w2.heap.size w2 V → Fl V (fun b => b < w.heap.size) t ⟨xk, xa, xs, xn, .slice ma mn mc, .slice ka kn kc⟩ 0 L) := fun V hV => HL.out.same (fun b hb => (hV.block b (by have := hb2.size; have := HZ.out.2.2.2; omega)).trans (hb2.block b (by have := HZ.out.2.2.2; omega)))
    have HFw := Lib.hid hFw
    have HLB := Lib.hid (show lb < w2.heap.size ∧ ab < w2.heap.size ∧ w.heap.size < w2.heap.size from ⟨hlb, hab, by have := hb2.size; have := HZ.out.2.2.2; omega⟩)
    have C3 := all_new t ⟨xk, xa, xs, xn, .slice ma mn mc, .slice ka kn kc⟩ w2 (HR.out w2 HB2.out) (by have := HZ.out.1; omega) (fun b hb => by have := HLB.out.2.2; omega)
    simp only [Nv.v] at C3
    clear C2 hFw hGr hb2 hlb hab n0 n1 n2 n3 n4 n5
    obtain ⟨n0, n1, n2, n3, n4, n5⟩ := HN2.out.cells
    go_wp2_with fail
    refine C3.mono ?_
    rintro e w3 ⟨y, q, rfl, hq3, ho3, hql, hb3⟩
    have HB3 := Lib.hid (HB2.out.trans (hb3.mono HB2.out.size))
    obtain ⟨M, hM⟩ := Rd.fl t y 0 ho3.rd
    have HC4 : Hid (∀ V st, Below w3.heap.size w3 V → Calls Tryz.prog 21 #[.func (.func 34) #[] #[.pointer (some ⟨q, 0, none⟩)], .slice (some ⟨lb, 0, none⟩) L.length lc, .slice (some ⟨ab, 0, none⟩) L.length ac, .int .i64 st] V fun e w' => e = .returned (.bool true) ∧ Below V.heap.size V w') := fun V st hV => by
      have hql3 := hq3.lt
      have hsz3 := hb3.size
      have h23 : Below w2.heap.size w2 V := hb3.trans (hV.mono hsz3)
      have hwV := HB2.out.trans (h23.mono HB2.out.size)
      have hzz := HZ.out
      have hll := HLB.out
      refine goes_any (t := t) (x := ⟨xk, xa, xs, xn, .slice ma mn mc, .slice ka kn kc⟩) (y := y) (L := L) (M := M) (ok := fun b => b < w.heap.size) (ok' := fun b => w2.heap.size + 1 ≤ b ∧ b < q) (hq3.below hV) (hM.same (fun b hb => hV.block b (by omega))) (ho3.rd.same (fun b hb => hV.block b (by omega))) (HL2.out V h23) (HR.out V hwV) (fun j p hp => ?_) rfl (by omega) (by omega) (fun b hb => ?_)
      · obtain ⟨h1, h2⟩ := HFw.out.at_ rfl j p hp
        exact ⟨h1.below h23, cell_keep h2 h23⟩
      · have := h23.size
        have := hV.size
        rcases hb with h | h | h | h | h <;> omega
    clear C3 hq3 ho3 hql hb3 hM n0 n1 n2 n3 n4 n5
    have C4 := HC4.out w3 stop (Below.refl _ _)
    have hfn : ∀ wx fn f1 c, (binOp .neq 41 (.func fn f1 c) .nilFunc).run Tryz.prog wx = .ok (.bool true) wx := fun _ _ _ _ => by kernel_rfl
    go_wp2_with fail
    refine C4.mono ?_
    rintro e w4 ⟨rfl, hb4⟩
    have HB4 := Lib.hid (HB3.out.trans (hb4.mono HB3.out.size))
    have C5 := HC4.out w4 0 hb4
    clear C4 hb4
    go_wp2_with fail
    refine C5.mono ?_
    rintro e w5 ⟨rfl, hb5⟩
    have HB5 := Lib.hid (HB4.out.trans (hb5.mono HB4.out.size))
    have CA := awake14_any w5
    clear C5 hb5
    go_wp2_with fail
    refine CA.mono ?_
    rintro e w6 ⟨rfl, hb6⟩
    have HB6 := Lib.hid (HB5.out.trans (hb6.mono HB5.out.size))
    clear CA hb6
    go_wp2_with fail
    go_ret
    exact ⟨rfl, HB6.out⟩
end Nd
end Go.Proofs.YtfcgogpnbmikmaaGreatDoor
