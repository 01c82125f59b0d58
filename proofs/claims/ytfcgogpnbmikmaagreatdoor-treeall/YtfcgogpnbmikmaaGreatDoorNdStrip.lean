/-
  strip, Bare, none: a tree without its places.
-/
import Derived.Test.YtfcgogpnbmikmaaGreatDoorNdDup
namespace Go.Proofs.YtfcgogpnbmikmaaGreatDoor
open Go.RowKit Go.WideShapes
namespace Nd
open Lx

/-- All is as it was but for one cell, and for the blocks from lo to hi. -/
structure Sp (w w' : World) (g o lo hi : Nat) : Prop where
  os : w'.os = w.os
  tape : w'.tape = w.tape
  output : w'.output = w.output
  size : w'.heap.size = w.heap.size
  out : ∀ b, ¬ (lo ≤ b ∧ b < hi) → w'.heap[b]? = (w.setCell ⟨g, o, none⟩ (.int .i64 0)).heap[b]?
theorem At.set {w : World} {g o : Nat} {x : Nv} {F : Nat → Value} {n : Nat} (h : At w g o x) (hb : Blk w g n F) (ho : o + 6 ≤ n) : At (w.setCell ⟨g, o + 1, none⟩ (.int .i64 0)) g o { x with a := 0 } := by
  have k := hb.put (o + 1) (.int .i64 0)
  have e : ∀ j, j < n → w.cell? ⟨g, j, none⟩ = some (F j) := hb.c
  refine ⟨?_, ?_, ?_, ?_, ?_, ?_⟩
  · have := k.c o (by omega); rw [if_neg (by omega)] at this; rw [this, ← e o (by omega)]; exact h.c0
  · have := k.c (o + 1) (by omega); rw [if_pos rfl] at this; exact this
  · have := k.c (o + 2) (by omega); rw [if_neg (by omega)] at this; rw [this, ← e (o + 2) (by omega)]; exact h.c2
  · have := k.c (o + 3) (by omega); rw [if_neg (by omega)] at this; rw [this, ← e (o + 3) (by omega)]; exact h.c3
  · have := k.c (o + 4) (by omega); rw [if_neg (by omega)] at this; rw [this, ← e (o + 4) (by omega)]; exact h.c4
  · have := k.c (o + 5) (by omega); rw [if_neg (by omega)] at this; rw [this, ← e (o + 5) (by omega)]; exact h.c5
theorem blk_of_owns {w : World} {B n cap g : Nat} {ys : Nat → Nv} (h : w.ownsRow B 27 6 (.slice (some ⟨g, 0, none⟩) n cap) n (rw6 n ys)) : Blk w g (n * 6) (fun j => ((rw6 n ys)[j]?).getD .nilFunc) := by
  refine ⟨fun j hj => ?_, fun j => h.frozenAt j⟩
  rw [h.cellAt j hj]
  have hl : j < (rw6 n ys).length := by rw [rw6_len]; exact hj
  rw [List.getElem?_eq_getElem hl]
  rfl
set_option maxRecDepth 100000 in
set_option maxHeartbeats 4000000 in
theorem strip_any : ∀ (t : Tr) (x : Nv) (w : World) (g o lo hi N : Nat) (F : Nat → Value), Ow w t lo hi x → wt t ≤ 3000 → At w g o x → Blk w g N F → o + 6 ≤ N → ¬ (lo ≤ g ∧ g < hi) →
    Calls Tryz.prog 36 #[.pointer (some ⟨g, o, none⟩)] w fun e w' => e = .returned (.tuple #[]) ∧ Ow w' (bare t) lo hi { x with a := 0 } ∧ Sp w w' g (o + 1) lo hi := by
  intro t
  induction t with
  | no => exact fun _ _ _ _ _ _ _ _ h => h.elim
  | mk k a s neg mg n kid ih =>
    rintro ⟨xk, xa, xs, xn, xm, xkv⟩ w g o lo hi N F ⟨h1, h2, h3, h4, h5, ys, h, h6, h7, h8, h9, h10, h11, h12⟩ hwt hat hblk hoN hg
    simp only at h1 h2 h3 h4 h5 h6 h7 h8
    subst h1 h2 h3 h4
    simp only [wt] at hwt
    have hn3 : n ≤ 3000 := by have := sm_ge (fun i => wt (kid i)) (fun i => wt_pos _) n; omega
    have HWK : Hid (∀ i, i < n → wt (kid i) ≤ 3000) := fun i hi => by have := sm_get (fun i => wt (kid i)) hi; omega
    obtain ⟨ka, kc, rfl⟩ := ownsS_shape h6
    have hz1 := hblk.z (o + 1)
    have hA := At.set hat hblk hoN
    have c1 := hat.c1
    have c5 := hA.c5
    simp only at c1 c5
    have HA := Lib.hid hA
    have HIH := Lib.hid ih
    have H5 := Lib.hid h5
    have H6 := Lib.hid h6
    have H7 := Lib.hid h7
    have H8 := Lib.hid h8
    have H9 := Lib.hid h9
    have H10 := Lib.hid h10
    have H11 := Lib.hid h11
    have H12 := Lib.hid h12
    have HG := Lib.hid hg
    have HGL := Lib.hid hat.lt
    clear ih h5 h6 h7 h8 h9 h10 h11 h12 hwt hat hblk hA hg
    go_enter Tryz.func36, Tryz.ntmps36
    go_wp2_with fail
    obtain ⟨W, hW⟩ : ∃ W, w.setCell ⟨g, o + 1, none⟩ (.int .i64 0) = W := ⟨_, rfl⟩
    have hWb : ∀ b, b ≠ g → W.heap[b]? = w.heap[b]? := fun b hb => by rw [← hW]; exact setCell_blk hb
    have hWs : W.heap.size = w.heap.size := by rw [← hW]; simp [World.setCell]
    have hWo : W.os = w.os ∧ W.tape = w.tape ∧ W.output = w.output := by rw [← hW]; exact ⟨rfl, rfl, rfl⟩
    have HWB := Lib.hid hWb
    have HWS := Lib.hid hWs
    have HWO := Lib.hid hWo
    have HWW := Lib.hid hW
    rw [hW] at c5 ⊢
    have HA : Hid (At W g o ⟨xk, 0, xs, xn, xm, .slice ka n kc⟩) := by have h := HA.out; rw [hW] at h; exact h
    clear hW hWb hWs hWo c5 c1 hz1
    have hn0 : Hid (h 0 ≤ h n) := h_mono H10.out (Nat.zero_le _) (Nat.le_refl _)
    have hin_ : Hid (∀ b, lo ≤ b → b < hi → W.heap[b]? = w.heap[b]?) := fun b h1 h2 => HWB.out b (fun e => HG.out ⟨by omega, by omega⟩)
    go_loopg [11] n (fun gk v11 wr => ∃ i : Nat, i + gk = n ∧ v11 = .int .i64 (i : Int) ∧ (wr.os = W.os ∧ wr.tape = W.tape ∧ wr.output = W.output ∧ wr.heap.size = W.heap.size) ∧ (∀ b, ¬ (lo ≤ b ∧ b < hi) → wr.heap[b]? = W.heap[b]?) ∧ wr.ownsRow lo 57 1 xm mg.length (mgl mg) ∧ wr.ownsRow lo 27 6 (.slice ka n kc) n (rw6 n (fun j => if j < i then { ys j with a := 0 } else ys j)) ∧ (∀ j, j < i → Ow wr (bare (kid j)) (h j) (h (j + 1)) { ys j with a := 0 }) ∧ (∀ j, i ≤ j → j < n → Ow wr (kid j) (h j) (h (j + 1)) (ys j)))
    case atStart =>
      refine ⟨0, by omega, rfl, ⟨rfl, rfl, rfl, rfl⟩, fun _ _ => rfl, ownsS_same H5.out (fun b hb => hin_.out b (ownsS_base H5.out b hb).1 (by have := H7.out b hb; have := H11.out; have := hn0.out; omega)), ?_, fun j hj => absurd hj (by omega), fun j _ hj => ?_⟩
      · have h6 := H6.out
        rw [rw6_congr ys (fun j => if j < 0 then { ys j with a := 0 } else ys j) n (fun j _ => (if_neg (by omega)).symm)] at h6
        exact ownsS_same h6 (fun b hb => hin_.out b (ownsS_base H6.out b hb).1 (by have := H8.out b hb; have := H11.out; have := hn0.out; omega))
      · have m0 := h_mono H10.out (Nat.zero_le j) (Nat.le_of_lt hj)
        have m1 := h_mono H10.out (show j + 1 ≤ n from hj) (Nat.le_refl _)
        exact (H12.out j hj).same (fun b h1 h2 => hin_.out b (by have := H9.out; omega) (by have := H11.out; omega))
    case round =>
      obtain ⟨i, hig, rfl, ⟨o1, o2, o3, o4⟩, hout, hmag, hrow, hk1, hk2⟩ := hrel
      have HOO : Hid (wr.os = W.os ∧ wr.tape = W.tape ∧ wr.output = W.output ∧ wr.heap.size = W.heap.size) := ⟨o1, o2, o3, o4⟩
      have HOUT := Lib.hid hout
      have HMAG := Lib.hid hmag
      have HROW := Lib.hid hrow
      have HK1 := Lib.hid hk1
      have HK2 := Lib.hid hk2
      have c5 := (HA.out.same (hout g HG.out)).c5
      simp only at c5
      have k0 : (0 : Int) ≤ (i : Int) := by omega
      clear hout hmag hrow hk1 hk2 o1 o2 o3 o4
      by_cases hin : i < n
      · have k1 : (i : Int) < (n : Int) := by omega
        have e2 : IntKind.i64.wrap ((i : Int) + 1) = ((i + 1 : Nat) : Int) := by rw [i64_small (by omega) (by omega)]; omega
        obtain ⟨gb, cap, ev, hgl, -, hgB⟩ := ownsS_some HROW.out (by omega)
        injection ev with ev1 _ ev3
        subst ev1
        subst ev3
        have hg0 : gb < h 0 := H8.out gb rfl
        have m0 := h_mono H10.out (Nat.zero_le i) (Nat.le_of_lt hin)
        have hatk := at_of_owns HROW.out i hin
        rw [Nat.zero_add, if_neg (by omega)] at hatk
        have C := HIH.out i (ys i) wr gb (i * 6) (h i) (h (i + 1)) (n * 6) _ (HK2.out i (Nat.le_refl _) hin) (HWK.out i hin) hatk (blk_of_owns HROW.out) (by omega) (by omega)
        have HM0 := Lib.hid m0
        have HG0 := Lib.hid hg0
        have HGB := Lib.hid hgB
        clear hatk m0 hg0 hgB hgl
        go_wp2_with fail
        refine C.mono ?_
        rintro e w2 ⟨rfl, hO2, hS2⟩
        have HO2 := Lib.hid hO2
        have HS2 := Lib.hid hS2
        clear C hO2 hS2
        go_wp2_with fail
        go_roundg (gk - 1)
        case measure => omega
        case rel =>
          have hS := HS2.out
          have hm0 := HM0.out
          have hg0 := HG0.out
          have hgB := HGB.out
          have hnn := hn0.out
          have h11 := H11.out
          have h9 := H9.out
          have hse : ∀ b, b ≠ gb → (wr.setCell ⟨gb, i * 6 + 1, none⟩ (.int .i64 0)).heap[b]? = wr.heap[b]? := fun b hb => setCell_blk hb
          obtain ⟨o1, o2, o3, o4⟩ := HOO.out
          refine ⟨i + 1, by omega, rfl, ⟨hS.os.trans o1, hS.tape.trans o2, hS.output.trans o3, hS.size.trans o4⟩, fun b hb => ?_, ?_, ?_, fun j hj => ?_, fun j hj1 hj2 => ?_⟩
          · have m1 := h_mono H10.out (show i + 1 ≤ n from hin) (Nat.le_refl _)
            rw [hS.out b (fun e => hb ⟨by omega, by omega⟩), hse b (fun e => hb (by omega))]
            exact HOUT.out b hb
          · refine ownsS_same HMAG.out (fun b hb => ?_)
            have hb0 := H7.out b hb
            rw [hS.out b (by omega), hse b (fun e => owns_apart' HMAG.out HROW.out (by decide) b hb (by rw [e]; rfl))]
          · have hr := store1 HROW.out i hin 0
            rw [rw6_congr (upd (fun j => if j < i then { ys j with a := 0 } else ys j) i { (if i < i then { ys i with a := 0 } else ys i) with a := 0 }) (fun j => if j < i + 1 then { ys j with a := 0 } else ys j) n (fun j _ => ?_)] at hr
            · refine ownsS_same hr (fun b hb => ?_)
              injection hb with hb
              have hb : gb = b := hb
              subst hb
              exact hS.out gb (by omega)
            · simp only [upd]
              by_cases e1 : j = i
              · subst e1
                simp
              · rw [if_neg e1]
                by_cases e2 : j < i
                · rw [if_pos e2, if_pos (by omega)]
                · rw [if_neg e2, if_neg (by omega)]
          · by_cases e1 : j = i
            · subst e1
              exact HO2.out
            · have m1 := h_mono H10.out (show j + 1 ≤ i by omega) (Nat.le_of_lt hin)
              have m2 := h_mono H10.out (Nat.zero_le j) (by omega)
              refine (HK1.out j (by omega)).same (fun b h1 h2 => ?_)
              rw [hS.out b (by omega), hse b (by omega)]
          · have m1 := h_mono H10.out (show i + 1 ≤ j by omega) (Nat.le_of_lt hj2)
            have m2 := h_mono H10.out (Nat.zero_le j) (Nat.le_of_lt hj2)
            refine (HK2.out j (by omega) hj2).same (fun b h1 h2 => ?_)
            rw [hS.out b (by omega), hse b (by omega)]
      · obtain rfl : n = i := by omega
        have k1 : ¬ (n : Int) < (n : Int) := by omega
        go_wp2_with fail
        go_end0
        obtain ⟨o1, o2, o3, o4⟩ := HOO.out
        obtain ⟨p1, p2, p3⟩ := HWO.out
        refine ⟨rfl, ⟨rfl, rfl, rfl, rfl, HMAG.out, (fun j => { ys j with a := 0 }), h, ?_, H7.out, H8.out, H9.out, H10.out, H11.out, fun j hj => HK1.out j hj⟩, ⟨o1.trans p1, o2.trans p2, o3.trans p3, o4.trans HWS.out, fun b hb => ?_⟩⟩
        · have hr := HROW.out
          rw [rw6_congr (fun j => if j < n then { ys j with a := 0 } else ys j) (fun j => { ys j with a := 0 }) n (fun j hj => if_pos hj)] at hr
          exact hr
        · rw [HOUT.out b hb, HWW.out]
set_option maxRecDepth 100000 in
theorem bare_any {ok : Nat → Prop} (t : Tr) (x : Nv) (w : World) (hR : Rd w ok t x) (hwt : wt t ≤ 3000) (hok : ∀ b, ok b → b < w.heap.size) :
    Calls Tryz.prog 22 #[x.v] w fun e w' => ∃ y : Nv, e = .returned y.v ∧ Ow w' (bare t) w.heap.size w'.heap.size y ∧ Below w.heap.size w w' := by
  obtain ⟨xk, xa, xs, xn, xm, xkv⟩ := x
  have C := fun o o' => dup_any t ⟨xk, xa, xs, xn, xm, xkv⟩ ((w.alloc o).alloc o') (hR.same (fun b hb => (Below.heap_alloc _ _ _ (by have := hok b hb; simp; omega)).trans (Below.heap_alloc _ _ _ (hok b hb)))) hwt (fun b hb => by have := hok b hb; simp; omega)
  simp only [Nv.v] at C ⊢
  have HWT := Lib.hid hwt
  clear hR hwt hok
  go_enter Tryz.func22, Tryz.ntmps22
  go_wp2_with fail
  refine (C _ _).mono ?_
  rintro e w2 ⟨y, rfl, hO, hb2⟩
  clear C
  obtain ⟨⟨sa, sn, sc, hsv⟩, ⟨ta, tn, tc, htv⟩⟩ := hO.rd.shape
  obtain ⟨yk, ya, yx, yn, ym, yv⟩ := y
  simp only at hsv htv
  subst hsv
  subst htv
  have hs1 : ((w.alloc (.cells #[.int .i64 xk, .int .i64 xa, .string xs, .bool xn, xm, xkv] 27)).alloc (.cells #[.int .i64 0, .int .i64 0, .string ⟨#[]⟩, .bool false, .slice none 0 0, .slice none 0 0] 27)).heap.size = w.heap.size + 2 := by simp
  rw [hs1] at hO hb2
  have hb : Below w.heap.size w w2 := (((Below.refl _ w).alloc (Nat.le_refl _) _).alloc (by simp) _).trans (hb2.mono (by omega))
  have hG : ∃ G, Blk w2 (w.heap.size + 1) 6 G := by
    have h := Blk.new (w.alloc (.cells #[.int .i64 xk, .int .i64 xa, .string xs, .bool xn, xm, xkv] 27)) #[.int .i64 0, .int .i64 0, .string ⟨#[]⟩, .bool false, .slice none 0 0, .slice none 0 0] 27
    rw [World.size_alloc] at h
    exact ⟨_, h.same (hb2.block (w.heap.size + 1) (by omega))⟩
  have hsz : w.heap.size + 2 ≤ w2.heap.size := by have := hb2.size; omega
  have HO := Lib.hid hO
  have HB := Lib.hid hb
  have HG := Lib.hid hG
  have HSZ := Lib.hid hsz
  clear hO hb2 hb hG hsz hs1
  go_wp2_with fail
  obtain ⟨W3, hW3⟩ : ∃ W3, w2.alloc (.cells #[.int .i64 yk, .int .i64 ya, .string yx, .bool yn, .slice sa sn sc, .slice ta tn tc] 27) = W3 := ⟨_, rfl⟩
  have hk3 : ∀ k, k < w2.heap.size → W3.heap[k]? = w2.heap[k]? := fun k hk => by rw [← hW3]; exact Below.heap_alloc _ _ _ hk
  have hs3 : W3.heap.size = w2.heap.size + 1 := by rw [← hW3]; simp
  have hA3 : At W3 w2.heap.size 0 ⟨yk, ya, yx, yn, .slice sa sn sc, .slice ta tn tc⟩ := by rw [← hW3]; exact ⟨World.cell?_alloc_at _ _ _ _ rfl, World.cell?_alloc_at _ _ _ _ rfl, World.cell?_alloc_at _ _ _ _ rfl, World.cell?_alloc_at _ _ _ _ rfl, World.cell?_alloc_at _ _ _ _ rfl, World.cell?_alloc_at _ _ _ _ rfl⟩
  have hb3 : ∃ G, Blk W3 w2.heap.size 6 G := by rw [← hW3]; exact ⟨_, Blk.new w2 _ _⟩
  obtain ⟨G3, hG3⟩ := hb3
  have C2 := strip_any t ⟨yk, ya, yx, yn, .slice sa sn sc, .slice ta tn tc⟩ W3 w2.heap.size 0 (w.heap.size + 2) w2.heap.size 6 G3 (HO.out.same (fun b _ h2 => hk3 b h2)) HWT.out hA3 hG3 (by omega) (by omega)
  have HK3 := Lib.hid hk3
  have HS3 := Lib.hid hs3
  have HO3 : Hid (W3.os = w2.os ∧ W3.tape = w2.tape ∧ W3.output = w2.output) := by rw [← hW3]; exact ⟨rfl, rfl, rfl⟩
  have HA3 := Lib.hid hA3
  have HG3 := Lib.hid hG3
  rw [hW3]
  clear hW3 hk3 hs3 hA3 hG3
  go_wp2_with fail
  refine C2.mono ?_
  rintro e w4 ⟨rfl, hO4, hS4⟩
  clear C2
  have hA4 : At w4 w2.heap.size 0 ⟨yk, 0, yx, yn, .slice sa sn sc, .slice ta tn tc⟩ := (At.set HA3.out HG3.out (by omega)).same (hS4.out w2.heap.size (by omega))
  obtain ⟨G, hG⟩ := HG.out
  have hG4 : Blk w4 (w.heap.size + 1) 6 G := hG.same (by rw [hS4.out (w.heap.size + 1) (by omega), setCell_blk (by have := HSZ.out; omega), HK3.out (w.heap.size + 1) (by have := HSZ.out; omega)])
  obtain ⟨p0, p1, p2, p3, p4, p5⟩ := hA4
  simp only [Nat.zero_add] at p1 p2 p3 p4 p5
  have r0 := hG4.c 0 (by omega)
  have r1 := hG4.c 1 (by omega)
  have r2 := hG4.c 2 (by omega)
  have r3 := hG4.c 3 (by omega)
  have r4 := hG4.c 4 (by omega)
  have r5 := hG4.c 5 (by omega)
  have s0 := hG4.z 0
  have s1 := hG4.z 1
  have s2 := hG4.z 2
  have s3 := hG4.z 3
  have s4 := hG4.z 4
  have s5 := hG4.z 5
  have HG4 := Lib.hid hG4
  have HO4 := Lib.hid hO4
  have HS4 := Lib.hid hS4
  clear hG hG4 hO4 hS4
  go_wp2_with fail
  have hA := blk_at HG4.out 0 ⟨yk, 0, yx, yn, .slice sa sn sc, .slice ta tn tc⟩ (by omega)
  have hst : ∀ k, k ≠ w.heap.size + 1 → (st6 w4 (w.heap.size + 1) 0 ⟨yk, 0, yx, yn, .slice sa sn sc, .slice ta tn tc⟩).heap[k]? = w4.heap[k]? := fun k hk => st6_blk hk
  have hss := st6_size w4 (w.heap.size + 1) 0 ⟨yk, 0, yx, yn, .slice sa sn sc, .slice ta tn tc⟩
  have hBl := below_st6 (o := 0) (x := ⟨yk, 0, yx, yn, .slice sa sn sc, .slice ta tn tc⟩) (g := w.heap.size + 1) (Below.refl w.heap.size w4) (by omega)
  simp only [st6, Nat.zero_add] at hA hst hss hBl
  generalize (((((w4.setCell ⟨w.heap.size + 1, 0, none⟩ (.int .i64 yk)).setCell ⟨w.heap.size + 1, 1, none⟩ (.int .i64 0)).setCell ⟨w.heap.size + 1, 2, none⟩ (.string yx)).setCell ⟨w.heap.size + 1, 3, none⟩ (.bool yn)).setCell ⟨w.heap.size + 1, 4, none⟩ (.slice sa sn sc)).setCell ⟨w.heap.size + 1, 5, none⟩ (.slice ta tn tc) = w6 at *
  obtain ⟨y0, y1, y2, y3, y4, y5⟩ := hA
  simp only [Nat.zero_add] at y1 y2 y3 y4 y5
  refine bodyPost_ret (v := .agg #[.int .i64 yk, .int .i64 0, .string yx, .bool yn, .slice sa sn sc, .slice ta tn tc]) (by simp [results, Tryz.results22, go_sem, y0, y1, y2, y3, y4, y5]) rfl ?_
  have hsz := HSZ.out
  have hS4 := HS4.out
  have h4s := hS4.size
  have h3s := HS3.out
  refine ⟨⟨yk, 0, yx, yn, .slice sa sn sc, .slice ta tn tc⟩, rfl, ?_, ?_⟩
  · exact Ow.mono (HO4.out.same (fun b h1 h2 => hst b (by omega))) (by omega) (by omega)
  · obtain ⟨o1, o2, o3⟩ := HO3.out
    refine ⟨hBl.os.trans (hS4.os.trans (o1.trans HB.out.os)), hBl.tape.trans (hS4.tape.trans (o2.trans HB.out.tape)), hBl.output.trans (hS4.output.trans (o3.trans HB.out.output)), by omega, fun k hk => ?_⟩
    rw [hst k (by omega), hS4.out k (by omega), setCell_blk (by omega), HK3.out k (by omega), HB.out.block k hk]
end Nd
end Go.Proofs.YtfcgogpnbmikmaaGreatDoor
