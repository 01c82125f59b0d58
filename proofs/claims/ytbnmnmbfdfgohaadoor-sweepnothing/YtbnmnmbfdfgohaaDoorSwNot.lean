/-
  The law SweepNothing.
-/
import Derived.Test.YtbnmnmbfdfgohaaDoorSwMarks
namespace Go.Proofs.YtbnmnmbfdfgohaaDoor
open Go.RowKit Go.WideShapes

/-- Slots whose first lists were taken away. -/
def zss (ss : List So) : Nat → List So
  | 0 => ss
  | j + 1 => (zss ss j).set j ⟨(nts ss j).taken, Sh.nil⟩
theorem zss_len (ss : List So) (j : Nat) : (zss ss j).length = ss.length := by
  induction j with
  | zero => rfl
  | succ j ih => rw [zss, List.length_set, ih]
theorem zss_nts (ss : List So) (j k : Nat) (hj : j ≤ ss.length) : nts (zss ss j) k = if k < j then ⟨(nts ss k).taken, Sh.nil⟩ else nts ss k := by
  induction j with
  | zero => simp [zss]
  | succ j ih =>
    rw [zss, nts_set (by rw [zss_len]; omega), ih (by omega)]
    by_cases e : k = j
    · subst e
      simp
    · have : k < j + 1 ↔ k < j := by omega
      simp only [e, if_false, this]
theorem tkv_zss (ss : List So) (j : Nat) (hj : j ≤ ss.length) : tkv (zss ss j) = tkv ss := by
  apply List.ext_getElem?
  intro k
  by_cases hk : k < ss.length
  · rw [tkv_get _ k (by rw [zss_len]; exact hk), tkv_get ss k hk, zss_nts ss j k hj]
    split <;> rfl
  · rw [List.getElem?_eq_none (by rw [tkv_len, zss_len]; omega), List.getElem?_eq_none (by rw [tkv_len]; omega)]
/-- A list is taken away. -/
theorem Rq.nil1 {w : World} {q r N c : Nat} {ss : List So} {tv : Value} {vs : List Value} {B j : Nat} (h : Rq w q (zss ss j) (.slice (some ⟨r, 0, none⟩) N c) tv vs B) (hj : j < ss.length) (hB : B ≤ r) :
    Rq (w.setCell ⟨r, j, none⟩ (.slice none 0 0)) q (zss ss (j + 1)) (.slice (some ⟨r, 0, none⟩) N c) tv (vs.set j (.slice none 0 0)) B := by
  have hqr : q ≠ r := fun e => h.nr (by rw [e]; rfl)
  have hlen := zss_len ss j
  have hlen2 := zss_len ss (j + 1)
  obtain rfl := rowS_len h.row
  have hfar : ∀ g o, g ≠ r → (w.setCell ⟨r, j, none⟩ (.slice none 0 0)).cell? ⟨g, o, none⟩ = w.cell? ⟨g, o, none⟩ := fun g o e => World.cell?_of_block (a := ⟨g, o, none⟩) (setCell_blk e)
  have hbel : Below B w (w.setCell ⟨r, j, none⟩ (.slice none 0 0)) := (Below.refl B w).setCell (p := ⟨r, j, none⟩) hB _
  have hvl : vs.length = ss.length := by have := h.row.1; omega
  refine ⟨(hfar q 0 hqr).trans h.c0, (hfar q 1 hqr).trans h.c1, fun j => by rw [World.frozen?_setCell]; exact h.z j, ?_, ?_, fun i hi hti => ?_, h.nr, h.nt, h.ne, by rw [hlen2, ← hlen]; exact h.sm, fun u hu => by rcases List.mem_or_eq_of_mem_set hu with e | e; exact h.one u e; rw [e]; rfl⟩
  · rw [hlen2, ← hlen]
    exact (h.row.stored j _).1
  · rw [hlen2, ← hlen, tkv_zss ss (j + 1) (by omega), ← tkv_zss ss j (by omega)]
    exact ownsS_same h.tk (fun k hk => setCell_blk (fun e => h.ne k (by rw [e]; rfl) hk))
  · rw [zss, nts_set (by omega)] at hti ⊢
    by_cases e : i = j
    · rw [if_pos e]
      exact ⟨none, 0, 0, by rw [e]; simp [hvl, hj], Lz.nil _ _ _ _⟩
    · rw [if_neg e] at hti ⊢
      obtain ⟨a, n, c, hv, hc⟩ := h.val i (by omega) hti
      exact ⟨a, n, c, by rw [List.getElem?_set, if_neg (fun h => e h.symm)]; exact hv, hc.below hbel⟩
theorem zss_short {ss : List So} {j k : Nat} (hj : j ≤ ss.length) (h : ∀ k, (nts ss k).taken = true → (nts ss k).has.l.length ≤ 60) (ht : (nts (zss ss j) k).taken = true) : (nts (zss ss j) k).has.l.length ≤ 60 := by
  rw [zss_nts ss j k hj] at ht ⊢
  split
  · simp
  · rename_i e
    rw [if_neg e] at ht
    exact h k ht
theorem zss_rch (ss : List So) (R : List Int) (k : Nat) : Rch (tk (zss ss ss.length)) (lsOf true (zss ss ss.length)) R k ↔ Rch (tk ss) (lsOf false ss) R k := by
  have e1 : tk (zss ss ss.length) = tk ss := by
    funext k
    unfold tk
    rw [zss_nts ss _ k (Nat.le_refl _)]
    split <;> rfl
  have e2 : ∀ k, tk ss k = true → lsOf true (zss ss ss.length) k = lsOf false ss k := fun k hk => by
    show (nts (zss ss ss.length) k).has.l = []
    rw [zss_nts ss _ k (Nat.le_refl _), if_pos (tk_lt hk)]
  rw [e1]
  constructor
  · intro h
    induction h with
    | root h1 h2 => exact .root h1 h2
    | lead h1 h2 h3 ih => exact .lead ih h2 (by rw [← e2 _ ih.taken]; exact h3)
  · intro h
    induction h with
    | root h1 h2 => exact .root h1 h2
    | lead h1 h2 h3 ih => exact .lead ih h2 (by rw [e2 _ ih.taken]; exact h3)
set_option maxRecDepth 100000 in
set_option maxHeartbeats 2000000 in
theorem snothing12_walk (a0 : Option Addr) (n0 c0 : Nat) (G : Nat → Sh) (a2 : Option Addr) (n2 c2 : Nat) (R : List Int) (w : World) (h0 : LLs w a0 n0 c0 G) (h2 : Lz w w.heap.size a2 n2 c2 R) (hT : Tab w) :
    Calls Tryd.prog 7 #[.slice a0 n0 c0, .slice a2 n2 c2] w fun e w' => e = .returned (.bool true) ∧ Below w.heap.size w w' := by
  have CL := large_any h0 a2 n2 c2
  have htl := hT.lt
  have HT := Lib.hid hT
  have H0 := Lib.hid h0
  have H2 := Lib.hid h2
  clear h0 h2 hT
  go_enter Tryd.func7, Tryd.ntmps7
  go_wp2_with fail
  refine CL.mono ?_
  rintro e w0 ⟨b, rfl, hLa, rfl⟩
  clear CL
  cases b with
  | true =>
    have CA := awake12_any w0 HT.out
    go_wp2_with fail
    refine CA.mono ?_
    rintro e w1 ⟨rfl, hB⟩
    clear CA
    go_wp2
    go_ret
    exact ⟨rfl, hB⟩
  | false =>
    obtain ⟨hn0, hn2, h60⟩ := hLa rfl
    have hRl : R.length ≤ 200 := by have := H2.out.1; omega
    have CM := mark_any (sla_nil w0) (by simp) (fun k hk => by simp [nts] at hk) true H2.out (by omega) HT.out
    unfold ldV at CM
    simp only [if_true] at CM
    clear hLa
    go_wp2_with fail
    refine CM.mono ?_
    clear CM
    rintro e w1 ⟨v1, f1, rfl, hI1, _, hB1⟩
    rw [show nbs f1 ([] : List So).length = [] from rfl] at hI1
    obtain ⟨va, vc, rfl⟩ := ownsS_shape hI1
    have CW := sweep_nil true ((H2.out.below hB1).mono hB1.size) (by omega) (HT.out.below hB1 htl)
    unfold ldV at CW
    simp only [if_true] at CW
    have HB1 := Lib.hid hB1
    clear hI1 hB1
    go_wp2_with fail
    refine CW.mono ?_
    clear CW
    rintro e w2 ⟨rfl, hB12⟩
    have hB2 : Below w0.heap.size w0 w2 := HB1.out.trans (hB12.mono HB1.out.size)
    have CD := laid_any (H0.out.below hB2) hn0 h60 (Lz.nil w2 w2.heap.size 0 none)
    have HB2 := Lib.hid hB2
    clear hB12 hB2 HB1
    go_wp2_with fail
    refine CD.mono ?_
    clear CD
    rintro e w3 ⟨g, q, ss, rfl, hL⟩
    have hB3 : Below w0.heap.size w0 w3 := HB2.out.trans (hL.be.mono HB2.out.size)
    have hlen := hL.len
    obtain ⟨X, Y, Z, hLd⟩ := hL.ld
    have CM := mark_any hLd.sl.sla (by omega) hLd.lss false ((H2.out.below hB3).mono hB3.size) (by omega) (HT.out.below hB3 htl)
    unfold ldV at CM
    simp only [Bool.false_eq_true, if_false] at CM
    have HB3 := Lib.hid hB3
    have HLEN := Lib.hid hlen
    have hw2 := HB2.out.size
    have HLD := Lib.hid hLd
    clear hL hB3 hlen HB2 hLd
    go_wp2_with fail
    refine CM.mono ?_
    clear CM
    rintro e w4 ⟨v4, f4, rfl, hI4, hf4, hB34⟩
    have hB4 : Below w0.heap.size w0 w4 := HB3.out.trans (hB34.mono HB3.out.size)
    have hLd4 := HLD.out.below hB34
    have hYlt := HLD.out.rq.top.1
    obtain ⟨lv, tv, vs, hq4, hY, hYs, hBs⟩ := hLd4.rq
    obtain ⟨la, lc, rfl⟩ := ownsS_shape hq4.row
    obtain ⟨a4, c4, hv4, _⟩ := hI4.rdl
    subst hv4
    have HQ4 := Lib.hid hq4
    have HF4 := Lib.hid hf4
    have HB4 := Lib.hid hB4
    have HI4 := Lib.hid hI4
    have HLR := Lib.hid hLd4.lr
    have HY := Lib.hid hY
    have HYS := Lib.hid hYlt
    clear hI4 hf4 hLd4 hB34 hB4 hq4 HB3 hY hYs hYlt HLD
    have hsm : ss.length ≤ 200 := by have := HLEN.out; omega
    obtain ⟨n, hn⟩ : ∃ n, ss.length = n := ⟨_, rfl⟩
    have HN := Lib.hid hn
    obtain ⟨nm, hnm⟩ : ∃ nm, (nbs f4 ss.length).length = nm := ⟨_, rfl⟩
    rw [hnm] at HI4 ⊢
    have HNM := Lib.hid hnm
    rw [hn] at HQ4 hsm
    clear hnm hn
    go_wp2_with fail
    go_loopw [10] (fun v10 wr => ∃ (j : Nat) (vs' : List Value), j ≤ n ∧ v10 = .int .i64 (j : Int) ∧ Rq wr q (zss ss j) (.slice la n lc) tv vs' w2.heap.size ∧ Ex Y w4 wr) (fun v10 _ => n - (intOf v10).toNat)
    case atStart => exact ⟨0, vs, Nat.zero_le _, rfl, HQ4.out, Ex.refl _ _⟩
    case round =>
      obtain ⟨j, vs', hj, rfl, hQ, hE⟩ := hrel
      have c0' := hQ.c0
      by_cases hjl : j < n
      · have tj : (j : Int) < (n : Int) := by omega
        have tj0 : (0 : Int) ≤ (j : Int) := by omega
        have ej : IntKind.i64.wrap ((j : Int) + 1) = ((j + 1 : Nat) : Int) := by rw [i64_small (by omega) (by omega)]; omega
        obtain ⟨r, rc2, e, hrlt⟩ := ownsS_some hQ.row (by rw [zss_len, HN.out]; omega)
        injection e with e1 e2 e3
        clear e2
        subst e1 e3
        have hYr : Y r := HY.out r (Or.inr (Or.inl rfl))
        have hQ2 := hQ.nil1 (by rw [HN.out]; exact hjl) (HYS.out r hYr).1
        have hro := hQ.row
        rw [zss_len, HN.out] at hro
        have hvl : j < vs'.length := by have := hro.1; omega
        have cr : ∃ v, wr.cell? ⟨r, j, none⟩ = some v := ⟨vs'[j], by rw [hro.cellAt j (by omega), List.getElem?_eq_getElem hvl]⟩
        obtain ⟨vv, cr⟩ := cr
        have zr : wr.frozen? ⟨r, j, none⟩ = false := hro.frozenAt j
        have HQ2 := Lib.hid hQ2
        have HE := Lib.hid hE
        clear hQ hQ2 hE hro hvl
        go_wp2_with fail
        go_roundw
        case rel => exact ⟨j + 1, _, by omega, rfl, HQ2.out, HE.out.setCell (p := ⟨r, j, none⟩) (fun _ => hYr) _⟩
        case measure => simp [intOf]; omega
      · obtain rfl : j = n := by omega
        have tj : ((j : Int) < (j : Int)) = False := by simp
        have hBr : Below w0.heap.size w0 wr := HB4.out.trans (hE.below (fun k hk => Nat.le_trans hw2 (HYS.out k hk).1) HB4.out.size)
        have hsz := hBr.size
        have hbs : w2.heap.size ≤ wr.heap.size := Nat.le_trans hBs hE.size
        rw [← HN.out] at hQ
        have CR := rmark_any hQ hbs (fun k hk => by have := zss_short (j := ss.length) (Nat.le_refl _) HLR.out hk; omega) ((H2.out.below hBr).mono hsz) (by omega)
        have hI5 : IntsR w3.heap.size wr (.slice a4 nm c4) (nbs f4 ss.length) := ownsS_same HI4.out (fun k hk => hE.block k (World.ownsRow.lt HI4.out k hk).2 (fun hy => by have := (World.ownsRow.lt HI4.out k hk).1; have := (HYS.out k hy).2; omega))
        have HI5 := Lib.hid hI5
        have HBR := Lib.hid hBr
        clear hQ hE hBr hI5 HI4 HB4 HQ4
        go_wp2_with fail
        refine CR.mono ?_
        clear CR
        rintro e w5 ⟨v5, f5, rfl, hJ5, hf5, hB5⟩
        rw [zss_len] at hJ5
        have hsame : nbs f5 ss.length = nbs f4 ss.length := nbs_same (fun k => (hf5 k).trans (zss_rch ss R k)) HF4.out
        rw [hsame] at hJ5
        obtain ⟨a5, c5, rfl, hrd5⟩ := hJ5.rdl
        obtain ⟨a6, c6, hv6, hrd6⟩ := HI5.out.rdl
        injection hv6 with e1 e2 e3
        subst e1 e3
        have hle := nbs_le f4 ss.length
        rw [HNM.out] at hrd5 hrd6 hle ⊢
        have CS := same_eq (c1 := c4) (c2 := c5) (hrd6.below hB5) hrd5 (by have := HN.out; omega)
        have HB5 := Lib.hid (HBR.out.trans (hB5.mono HBR.out.size))
        clear hJ5 hf5 hB5 hsame hrd5 hrd6 e2 HI5 HBR hle HF4
        go_wp2_with fail
        refine CS.mono ?_
        clear CS
        rintro e w6 ⟨rfl, hB56⟩
        have hB6 := HB5.out.trans (hB56.mono HB5.out.size)
        have CA := awake12_any w6 (HT.out.below hB6 htl)
        have HB6 := Lib.hid hB6
        clear hB56 hB6 HB5
        go_wp2_with fail
        refine CA.mono ?_
        rintro e w9 ⟨rfl, hB89⟩
        clear CA
        go_wp2
        go_ret
        exact ⟨rfl, HB6.out.trans (hB89.mono HB6.out.size)⟩
end Go.Proofs.YtbnmnmbfdfgohaaDoor
