/-
  spoil: a tree is written over; none: each place is 0.
-/
import Derived.Test.YtfcgogpnbmikmaaGreatDoorNdStrip
namespace Go.Proofs.YtfcgogpnbmikmaaGreatDoor
open Go.RowKit Go.WideShapes
namespace Nd
open Lx

/-- All that lay there is as it was, but for the blocks from lo to hi. -/
structure Fr (lo hi : Nat) (w w' : World) : Prop where
  os : w'.os = w.os
  tape : w'.tape = w.tape
  output : w'.output = w.output
  size : w.heap.size ≤ w'.heap.size
  out : ∀ b, b < w.heap.size → ¬ (lo ≤ b ∧ b < hi) → w'.heap[b]? = w.heap[b]?
theorem Fr.refl (lo hi : Nat) (w : World) : Fr lo hi w w := ⟨rfl, rfl, rfl, Nat.le_refl _, fun _ _ _ => rfl⟩
theorem Fr.trans {lo hi : Nat} {a b c : World} (h : Fr lo hi a b) (k : Fr lo hi b c) : Fr lo hi a c :=
  ⟨k.os.trans h.os, k.tape.trans h.tape, k.output.trans h.output, Nat.le_trans h.size k.size, fun x h1 h2 => (k.out x (Nat.lt_of_lt_of_le h1 h.size) h2).trans (h.out x h1 h2)⟩
theorem Fr.mono {lo hi lo' hi' : Nat} {a b : World} (h : Fr lo hi a b) (h1 : lo' ≤ lo) (h2 : hi ≤ hi') : Fr lo' hi' a b :=
  ⟨h.os, h.tape, h.output, h.size, fun x hx hn => h.out x hx (fun e => hn ⟨by omega, by omega⟩)⟩
theorem Fr.set {lo hi : Nat} {a b : World} (h : Fr lo hi a b) {g o : Nat} (v : Value) (hg : lo ≤ g ∧ g < hi) : Fr lo hi a (b.setCell ⟨g, o, none⟩ v) :=
  ⟨h.os, h.tape, h.output, by simp [World.setCell]; exact h.size, fun x hx hn => (setCell_blk (fun e => hn (by rw [e]; exact hg))).trans (h.out x hx hn)⟩
theorem Fr.st6 {lo hi : Nat} {a b : World} (h : Fr lo hi a b) {g o : Nat} (x : Nv) (hg : lo ≤ g ∧ g < hi) : Fr lo hi a (st6 b g o x) := by
  unfold Nd.st6
  exact (((((h.set _ hg).set _ hg).set _ hg).set _ hg).set _ hg).set _ hg
theorem Fr.below {lo hi : Nat} {a b : World} (h : Below a.heap.size a b) : Fr lo hi a b := ⟨h.os, h.tape, h.output, h.size, fun x hx _ => h.block x hx⟩
set_option maxRecDepth 100000 in
set_option maxHeartbeats 4000000 in
theorem none_any {ok : Nat → Prop} : ∀ (t : Tr) (x : Nv) (w : World), Rd w ok (bare t) x → wt t ≤ 3000 → (∀ b, ok b → b < w.heap.size) →
    Calls Tryz.prog 23 #[x.v] w fun e w' => e = .returned (.bool true) ∧ Below w.heap.size w w' := by
  intro t
  induction t with
  | no => exact fun _ _ h => h.elim
  | mk k a s neg mg n kid ih =>
    rintro ⟨xk, xa, xs, xn, xm, xkv⟩ w ⟨h1, h2, h3, h4, h5, ka, kc, h6, h7, b, off, h8, ys, h9⟩ hwt hok
    simp only at h1 h2 h3 h4 h6
    subst h1 h2 h3 h4 h6
    simp only [wt] at hwt
    have hn3 : n ≤ 3000 := by have := sm_ge (fun i => wt (kid i)) (fun i => wt_pos _) n; omega
    have HWK : Hid (∀ i, i < n → wt (kid i) ≤ 3000) := fun i hi => by have := sm_get (fun i => wt (kid i)) hi; omega
    simp only [Nv.v]
    have HIH := Lib.hid ih
    have H9 := Lib.hid h9
    have H8 := Lib.hid h8
    have HOK := Lib.hid hok
    clear ih h9 h8 hok h5 hwt
    go_enter Tryz.func23, Tryz.ntmps23
    go_wp2_with fail
    obtain ⟨W, hW⟩ : ∃ W, w.alloc (.cells #[.int .i64 xk, .int .i64 0, .string xs, .bool xn, xm, .slice ka n kc] 27) = W := ⟨_, rfl⟩
    have hbW : Below w.heap.size w W := by rw [← hW]; exact (Below.refl _ w).alloc (Nat.le_refl _) _
    have hsz : W.heap.size = w.heap.size + 1 := by rw [← hW]; simp
    have hbx : W.cell? ⟨w.heap.size, 5, none⟩ = some (.slice ka n kc) := by rw [← hW]; exact World.cell?_alloc_at _ _ _ _ rfl
    have HBW := Lib.hid hbW
    have HSZ := Lib.hid hsz
    have HBX := Lib.hid hbx
    rw [hW]
    clear hbW hsz hbx hW
    go_loopg [3] n (fun gk v3 wr => ∃ i : Nat, i + gk = n ∧ v3 = .int .i64 (i : Int) ∧ Below W.heap.size W wr)
    case atStart => exact ⟨0, by omega, rfl, Below.refl _ _⟩
    case round =>
      obtain ⟨i, hig, rfl, hB⟩ := hrel
      have HB := Lib.hid hB
      have c5 := cell_keep HBX.out hB
      have k0 : (0 : Int) ≤ (i : Int) := by omega
      clear hB
      by_cases hin : i < n
      · have k1 : (i : Int) < (n : Int) := by omega
        have e2 : IntKind.i64.wrap ((i : Int) + 1) = ((i + 1 : Nat) : Int) := by rw [i64_small (by omega) (by omega)]; omega
        obtain ⟨rfl, hokb⟩ := H8.out (by omega)
        obtain ⟨hat, hrd⟩ := H9.out i hin
        have hsame : ∀ k, k < w.heap.size → wr.heap[k]? = w.heap[k]? := fun k hk => (HB.out.block k (by have := HSZ.out; omega)).trans (HBW.out.block k hk)
        have hat := hat.same (hsame b (HOK.out b hokb))
        have hrd := hrd.same (w' := wr) (fun b hb => hsame b (HOK.out b hb))
        obtain ⟨p0, p1, p2, p3, p4, p5⟩ := hat
        have C := HIH.out i (ys i) wr hrd (HWK.out i hin) (fun b hb => Nat.lt_of_lt_of_le (HOK.out b hb) (by have := HB.out.size; have := HSZ.out; omega))
        simp only [Nv.v] at C
        generalize ys i = y at *
        clear hrd hsame
        go_wp2_with fail
        refine C.mono ?_
        rintro e w2 ⟨rfl, hb2⟩
        have HB2 := Lib.hid hb2
        clear C hb2
        go_wp2_with fail
        go_roundg (gk - 1)
        case measure => omega
        case rel => exact ⟨i + 1, by omega, rfl, HB.out.trans (HB2.out.mono HB.out.size)⟩
      · have k1 : ¬ (i : Int) < (n : Int) := by omega
        go_wp2_with fail
        go_ret
        exact ⟨rfl, HBW.out.trans (HB.out.mono (by rw [HSZ.out]; omega))⟩
set_option maxRecDepth 100000 in
set_option maxHeartbeats 4000000 in
theorem spoil_any : ∀ (t : Tr) (x : Nv) (w : World) (lo hi : Nat), Ow w t lo hi x → wt t ≤ 3000 → hi ≤ w.heap.size →
    Calls Tryz.prog 24 #[x.v] w fun e w' => e = .returned (.tuple #[]) ∧ Fr lo hi w w' := by
  intro t
  induction t with
  | no => exact fun _ _ _ _ h => h.elim
  | mk k a s neg mg n kid ih =>
    rintro ⟨xk, xa, xs, xn, xm, xkv⟩ w lo hi ⟨h1, h2, h3, h4, h5, ys, h, h6, h7, h8, h9, h10, h11, h12⟩ hwt hhi
    simp only at h1 h2 h3 h4 h5 h6 h7 h8
    subst h1 h2 h3 h4
    simp only [wt] at hwt
    have hn3 : n ≤ 3000 := by have := sm_ge (fun i => wt (kid i)) (fun i => wt_pos _) n; omega
    have hm3 : mg.length ≤ 3000 := by omega
    have HWK : Hid (∀ i, i < n → wt (kid i) ≤ 3000) := fun i hi => by have := sm_get (fun i => wt (kid i)) hi; omega
    obtain ⟨ka, kc, rfl⟩ := ownsS_shape h6
    obtain ⟨ma, mc, rfl⟩ := ownsS_shape h5
    simp only [Nv.v]
    obtain ⟨ml, hml⟩ : ∃ ml, mg.length = ml := ⟨_, rfl⟩
    rw [hml] at h5 h7 hm3 ⊢
    have HIH := Lib.hid ih
    have H5 := Lib.hid h5
    have H6 := Lib.hid h6
    have H7 := Lib.hid h7
    have H8 := Lib.hid h8
    have H9 := Lib.hid h9
    have H10 := Lib.hid h10
    have H11 := Lib.hid h11
    have H12 := Lib.hid h12
    have HHI := Lib.hid hhi
    have hn0 : Hid (h 0 ≤ h n) := h_mono H10.out (Nat.zero_le _) (Nat.le_refl _)
    clear ih h5 h6 h7 h8 h9 h10 h11 h12 hwt hhi hml
    go_enter Tryz.func24, Tryz.ntmps24
    go_wp2_with fail
    obtain ⟨W, hW⟩ : ∃ W, w.alloc (.cells #[.int .i64 xk, .int .i64 xa, .string xs, .bool xn, .slice ma ml mc, .slice ka n kc] 27) = W := ⟨_, rfl⟩
    have hbW : Below w.heap.size w W := by rw [← hW]; exact (Below.refl _ w).alloc (Nat.le_refl _) _
    have hsz : W.heap.size = w.heap.size + 1 := by rw [← hW]; simp
    have hbx : W.cell? ⟨w.heap.size, 4, none⟩ = some (.slice ma ml mc) ∧ W.cell? ⟨w.heap.size, 5, none⟩ = some (.slice ka n kc) := by rw [← hW]; exact ⟨World.cell?_alloc_at _ _ _ _ rfl, World.cell?_alloc_at _ _ _ _ rfl⟩
    have HBW := Lib.hid hbW
    have HSZ := Lib.hid hsz
    have HBX := Lib.hid hbx
    rw [hW]
    clear hbW hsz hbx hW
    have HFX : Hid (∀ V, Fr lo hi W V → V.cell? ⟨w.heap.size, 4, none⟩ = some (.slice ma ml mc) ∧ V.cell? ⟨w.heap.size, 5, none⟩ = some (.slice ka n kc)) := fun V hV => by
      have e : V.heap[w.heap.size]? = W.heap[w.heap.size]? := hV.out _ (by rw [HSZ.out]; omega) (by have := HHI.out; omega)
      exact ⟨(World.cell?_of_block (a := ⟨w.heap.size, 4, none⟩) e).trans HBX.out.1, (World.cell?_of_block (a := ⟨w.heap.size, 5, none⟩) e).trans HBX.out.2⟩
    go_loopg [2] ml (fun gk v2 wr => ∃ i : Nat, i + gk = ml ∧ v2 = .int .i64 (i : Int) ∧ Fr lo hi W wr ∧ (∃ xs', wr.ownsRow lo 57 1 (.slice ma ml mc) ml xs') ∧ wr.ownsRow lo 27 6 (.slice ka n kc) n (rw6 n ys) ∧ ∀ j, j < n → Ow wr (kid j) (h j) (h (j + 1)) (ys j))
    case atStart =>
      have hW0 : ∀ b, b < hi → W.heap[b]? = w.heap[b]? := fun b hb => HBW.out.block b (by have := HHI.out; omega)
      refine ⟨0, by omega, rfl, Fr.refl _ _ _, ⟨_, ownsS_same H5.out (fun b hb => hW0 b (by have := H7.out b hb; have := H11.out; have := hn0.out; omega))⟩, ownsS_same H6.out (fun b hb => hW0 b (by have := H8.out b hb; have := H11.out; have := hn0.out; omega)), fun j hj => (H12.out j hj).same (fun b _ h2 => hW0 b ?_)⟩
      have m1 := h_mono H10.out (show j + 1 ≤ n from hj) (Nat.le_refl _)
      have := H11.out
      omega
    case round =>
      obtain ⟨i, hig, rfl, hF, ⟨xs', hmg⟩, hrow, hk⟩ := hrel
      have HF := Lib.hid hF
      have HMG := Lib.hid hmg
      have HROW := Lib.hid hrow
      have HK := Lib.hid hk
      have c4 := (HFX.out wr hF).1
      have k0 : (0 : Int) ≤ (i : Int) := by omega
      clear hF hmg hrow hk
      by_cases hin : i < ml
      · have k1 : (i : Int) < (ml : Int) := by omega
        have e2 : IntKind.i64.wrap ((i : Int) + 1) = ((i + 1 : Nat) : Int) := by rw [i64_small (by omega) (by omega)]; omega
        obtain ⟨gm, cap, ev, hgl, -, hgB⟩ := ownsS_some HMG.out (by omega)
        injection ev with ev1 _ ev3
        subst ev1
        subst ev3
        have hgm : gm < h 0 := H7.out gm rfl
        have hst := (HMG.out.stored i (.int .u32 9)).1
        have hcl : ∃ u, wr.cell? ⟨gm, i, none⟩ = some u := by
          rw [HMG.out.cellAt i (by omega)]
          exact ⟨_, List.getElem?_eq_getElem (by rw [HMG.out.1]; omega)⟩
        obtain ⟨u, hcl⟩ := hcl
        have hfz := HMG.out.frozenAt i
        have HST := Lib.hid hst
        have HGM := Lib.hid hgm
        have HGB := Lib.hid hgB
        clear hst hgm hgB hgl
        go_wp2_with fail
        go_roundg (gk - 1)
        case measure => omega
        case rel =>
          have hgm := HGM.out
          have hgB := HGB.out
          have h11 := H11.out
          have hnn := hn0.out
          refine ⟨i + 1, by omega, rfl, HF.out.set _ ⟨hgB, by omega⟩, ⟨_, HST.out⟩, ownsS_same HROW.out (fun b hb => setCell_blk (fun e => owns_apart' HROW.out HMG.out (by decide) b hb (by rw [e]; rfl))), fun j hj => (HK.out j hj).same (fun b h1 h2 => setCell_blk ?_)⟩
          have m2 := h_mono H10.out (Nat.zero_le j) (Nat.le_of_lt hj)
          omega
      · have k1 : ¬ (i : Int) < (ml : Int) := by omega
        go_wp2_with fail
        go_loopg [3] n (fun gk v3 wv => ∃ j : Nat, j + gk = n ∧ v3 = .int .i64 (j : Int) ∧ Fr lo hi W wv ∧ (∃ zs, wv.ownsRow lo 27 6 (.slice ka n kc) n (rw6 n zs) ∧ ∀ q, j ≤ q → q < n → zs q = ys q) ∧ ∀ q, j ≤ q → q < n → Ow wv (kid q) (h q) (h (q + 1)) (ys q))
        case atStart => exact ⟨0, by omega, rfl, HF.out, ⟨ys, HROW.out, fun _ _ _ => rfl⟩, fun q _ hq => HK.out q hq⟩
        case round =>
          obtain ⟨j, hjg, rfl, hF, ⟨zs, hrow, hzs⟩, hk⟩ := hrel
          have c5 := (HFX.out wr hF).2
          have HF2 := Lib.hid hF
          have HROW2 := Lib.hid hrow
          have HZS := Lib.hid hzs
          have HK2 := Lib.hid hk
          have k2 : (0 : Int) ≤ (j : Int) := by omega
          clear hF hrow hzs hk c4
          by_cases hjn : j < n
          · have k3 : (j : Int) < (n : Int) := by omega
            have e2 : IntKind.i64.wrap ((j : Int) + 1) = ((j + 1 : Nat) : Int) := by rw [i64_small (by omega) (by omega)]; omega
            obtain ⟨gb, cap, ev, hgl, -, hgB⟩ := ownsS_some HROW2.out (by omega)
            injection ev with ev1 _ ev3
            subst ev1
            subst ev3
            have hg0 : gb < h 0 := H8.out gb rfl
            have hat := at_of_owns HROW2.out j hjn
            rw [Nat.zero_add, HZS.out j (Nat.le_refl _) hjn] at hat
            have m0 := h_mono H10.out (Nat.zero_le j) (Nat.le_of_lt hjn)
            have m1 := h_mono H10.out (show j + 1 ≤ n from hjn) (Nat.le_refl _)
            have hhi : h (j + 1) ≤ wr.heap.size := by have := H11.out; have := HHI.out; have := HF2.out.size; have := HSZ.out; omega
            have C := HIH.out j (ys j) wr (h j) (h (j + 1)) (HK2.out j (Nat.le_refl _) hjn) (HWK.out j hjn) hhi
            obtain ⟨p0, p1, p2, p3, p4, p5⟩ := hat
            simp only [Nv.v] at C
            have HM0 := Lib.hid m0
            have HM1 := Lib.hid m1
            have HG0 := Lib.hid hg0
            have HGB := Lib.hid hgB
            have HGL := Lib.hid hgl
            generalize ys j = y at *
            clear m0 m1 hg0 hgB hgl hhi
            go_wp2_with fail
            refine C.mono ?_
            rintro e w2 ⟨rfl, hF3⟩
            clear C
            have hrow3 : w2.ownsRow lo 27 6 (.slice (some ⟨gb, 0, none⟩) n kc) n (rw6 n zs) := ownsS_same HROW2.out (fun b hb => by
              injection hb with hb
              have hb : gb = b := hb
              subst hb
              exact hF3.out gb HGL.out (by have := HG0.out; have := HM0.out; omega))
            obtain ⟨q0, q1, q2, q3, q4, q5⟩ := at_of_owns hrow3 j hjn
            simp only [Nat.zero_add] at q0 q1 q2 q3 q4 q5
            have s0 := hrow3.frozenAt (j * 6)
            have s1 := hrow3.frozenAt (j * 6 + 1)
            have s2 := hrow3.frozenAt (j * 6 + 2)
            have s3 := hrow3.frozenAt (j * 6 + 3)
            have s4 := hrow3.frozenAt (j * 6 + 4)
            have s5 := hrow3.frozenAt (j * 6 + 5)
            have hFw : Fr lo hi W w2 := HF2.out.trans (hF3.mono (by have := HM0.out; have := H9.out; omega) (by have := HM1.out; have := H11.out; omega))
            have c5 := (HFX.out w2 hFw).2
            have HF3 := Lib.hid hF3
            have HFW := Lib.hid hFw
            have HR3 := Lib.hid hrow3
            clear hF3 hFw hrow3 p0 p1 p2 p3 p4 p5
            go_wp2_with fail
            go_roundg (gk - 1)
            case measure => omega
            case rel =>
              have hg0 := HG0.out
              have hgB := HGB.out
              have hm0 := HM0.out
              have h11 := H11.out
              have hnn := hn0.out
              have h6 := store6 HR3.out j hjn ⟨99, 0, ⟨#[]⟩, false, .slice none 0 0, .slice none 0 0⟩
              have hf6 := HFW.out.st6 (g := gb) (o := j * 6) ⟨99, 0, ⟨#[]⟩, false, .slice none 0 0, .slice none 0 0⟩ ⟨hgB, by omega⟩
              have hb6 : ∀ k, k ≠ gb → (st6 w2 gb (j * 6) ⟨99, 0, ⟨#[]⟩, false, .slice none 0 0, .slice none 0 0⟩).heap[k]? = w2.heap[k]? := fun k hk => st6_blk hk
              refine ⟨j + 1, by omega, rfl, hf6, ⟨_, h6, fun q h1 h2 => ?_⟩, fun q h1 h2 => ?_⟩
              · rw [show upd zs j _ q = zs q from if_neg (by omega)]
                exact HZS.out q (by omega) h2
              · have m2 := h_mono H10.out (show j + 1 ≤ q from h1) (Nat.le_of_lt h2)
                have m3 := h_mono H10.out (show q + 1 ≤ n from h2) (Nat.le_refl _)
                refine (HK2.out q (by omega) h2).same (fun b e1 e2 => ?_)
                have m4 := h_mono H10.out (Nat.zero_le q) (Nat.le_of_lt h2)
                refine Eq.trans (hb6 b (by omega)) ?_
                exact HF3.out.out b (by have := HHI.out; have := HF2.out.size; have := HSZ.out; omega) (by omega)
          · have k3 : ¬ (j : Int) < (n : Int) := by omega
            go_wp2_with fail
            go_end0
            exact ⟨rfl, (Fr.below HBW.out).trans HF2.out⟩
end Nd
end Go.Proofs.YtfcgogpnbmikmaaGreatDoor
