/-
  The law's taken and awake.
-/
import Derived.Test.YtbnmnmbfdfgohaaDoorSwLaw3
namespace Go.Proofs.YtbnmnmbfdfgohaaDoor
open Go.RowKit Go.WideShapes

theorem nbs_cnt (ss : List So) (j : Nat) (hj : j ≤ ss.length) : (nbs (tk ss) j).length = cntS (ss.take j) := by
  induction j with
  | zero => simp [nbs, cntS]
  | succ j ih =>
    have hlt : j < ss.length := by omega
    have e : tk ss j = ss[j].taken := by simp [tk, nts, hlt]
    rw [nbs_succ, List.length_append, ih (by omega), List.take_add_one, cntS_app, List.getElem?_eq_getElem hlt, e]
    cases h : ss[j].taken <;> simp [cntS, h]
theorem nbs_all (ss : List So) : (nbs (tk ss) ss.length).length = cntS ss := by rw [nbs_cnt ss _ (Nat.le_refl _), List.take_length]
theorem below_drewN {B : Nat} {w w' : World} (h : Below B w w') (m : Nat) : Below B w (w'.drewN m) := by
  induction m with
  | zero => exact h
  | succ m ih => exact ih.drew
set_option maxRecDepth 100000 in
set_option maxHeartbeats 1000000 in
theorem wtaken_any {w : World} {B g q : Nat} {ss : List So} (h : LdV w B g q ss ss) (hn : ss.length ≤ 1000) : Calls Tryd.prog 15 #[.pointer (some ⟨g, 0, none⟩), .pointer (some ⟨q, 0, none⟩)] w fun e w' => e = .returned (.bool true) ∧ Below w.heap.size w w' := by
  obtain ⟨X, Y, Z, h⟩ := h
  obtain ⟨lv, tv, vs, hq, _, _, hBs⟩ := h.rq
  have CA := rall_any hq
  have HH := Lib.hid h
  have HQ := Lib.hid hq
  have hle := nbs_le (tk ss) ss.length
  clear h hq
  go_enter Tryd.func15, Tryd.ntmps15
  go_wp2_with fail
  refine CA.mono ?_
  rintro e w1 ⟨v, rfl, hI, hB1⟩
  clear CA
  have CL := len_v (HH.out.below hB1).sl
  rw [← nbs_all] at CL
  obtain ⟨la, lc, lg, rfl, hlc, hlo⟩ := hI.open
  have HLO := Lib.hid hlo
  have HB1 := Lib.hid hB1
  clear hI hlo hB1
  generalize hNf : nbs (tk ss) ss.length = Nf at *
  have HNF := Lib.hid hNf
  obtain ⟨nl, hnl⟩ : ∃ nl, Nf.length = nl := ⟨_, rfl⟩
  rw [hnl] at CL hlc HLO hle ⊢
  have HNL := Lib.hid hnl
  clear hNf hnl
  go_wp2_with fail
  refine CL.mono ?_
  rintro e w2 ⟨rfl, m, hw2⟩
  clear CL
  have hB2 : Below w1.heap.size w1 w2 := by rw [hw2]; exact below_drewN (Below.refl _ w1) m
  have HB2 := Lib.hid (HB1.out.trans (hB2.mono HB1.out.size))
  have hs2 : w1.heap.size ≤ w2.heap.size := hB2.size
  have HLO2 : Hid (0 < nl → la = some ⟨lg, 0, none⟩ ∧ lg < w2.heap.size ∧ ∀ j, j < nl → w2.cell? ⟨lg, j, none⟩ = some (.int .i64 (Nf[j]?.getD 0))) := fun h0 => by
    obtain ⟨h1, h2, _, h3⟩ := HLO.out h0
    exact ⟨h1, Nat.lt_of_lt_of_le h2 hs2, fun j hj => (hB2.cell (p := ⟨lg, j, none⟩) h2).trans (h3.c j hj)⟩
  clear hB2 HLO hw2 hs2 HB1
  go_wp2_with fail
  go_loopw [6] (fun v6 wr => ∃ j : Nat, j ≤ nl ∧ v6 = .int .i64 (j : Int) ∧ Below w.heap.size w wr ∧ Below w2.heap.size w2 wr) (fun v6 _ => nl - (intOf v6).toNat)
  case atStart => exact ⟨0, Nat.zero_le _, rfl, HB2.out, Below.refl _ _⟩
  case round =>
    obtain ⟨j, hj, rfl, hBw, hBw2⟩ := hrel
    by_cases hjl : j < nl
    · have tj : (j : Int) < (nl : Int) := by omega
      have tj0 : (0 : Int) ≤ (j : Int) := by omega
      have ej : IntKind.i64.wrap ((j : Int) + 1) = ((j + 1 : Nat) : Int) := by rw [i64_small (by omega) (by omega)]; omega
      obtain ⟨rfl, hlg, hlcell⟩ := HLO2.out (by omega)
      have hjN : j < Nf.length := by rw [HNL.out]; exact hjl
      have hNj := List.getElem?_eq_getElem hjN
      obtain ⟨k, hk, hkl, hkt⟩ := nbs_mem.1 (show Nf[j] ∈ nbs (tk ss) ss.length by rw [HNF.out]; exact List.getElem_mem hjN)
      rw [hk] at hNj
      have cj := (hBw2.cell (p := ⟨lg, j, none⟩) hlg).trans (hlcell j hjl)
      rw [hNj] at cj
      simp only [Option.getD_some] at cj
      have hH := HH.out.below hBw
      have CG := get_v hH.sl (k : Int)
      have hisT : isT ss (k : Int) = true := by rw [isT_nat ss k hkl]; exact hkt
      have hget : getS ss (k : Int) = (nts ss k).has := by unfold getS; rw [if_pos hisT]; simp
      rw [hisT, hget] at CG
      obtain ⟨xa, xn, xc, hvi, hxl⟩ := HQ.out.val k hkl hkt
      have hQ := HQ.out.below hBw hBs
      obtain ⟨r, rc, e, hrlt⟩ := ownsS_some hQ.row (by omega)
      have c0 := hQ.c0
      rw [e] at c0
      have hro := hQ.row
      rw [e] at hro
      have cr : wr.cell? ⟨r, k, none⟩ = some (.slice xa xn xc) := by rw [hro.cellAt k (by omega)]; exact hvi
      have hlp := (hH.ls k hkt).1
      have hlz := hxl.below (hBw.mono hBs)
      have hn1 : (nts ss k).has.n = (nts ss k).has.l.length := hlp.1
      have hn2 : xn = (nts ss k).has.l.length := hlz.1
      have h60 := (hH.ls k hkt).2
      have hrd1 : Rdl wr (nts ss k).has.a (nts ss k).has.n (nts ss k).has.l := (hlp.lz (B := wr.heap.size) (fun q hq => (hH.z q hq).1)).rdl
      have hrd2 : Rdl wr xa xn (nts ss k).has.l := hlz.rdl
      have tk1 : (k : Int) < (ss.length : Int) := by omega
      have tk0 : (0 : Int) ≤ (k : Int) := by omega
      have CS : Calls Tryd.prog 13 #[.slice (nts ss k).has.a (nts ss k).has.n (nts ss k).has.c, .slice xa xn xc] wr.drew fun e w' => e = .returned (.bool true) ∧ Below wr.heap.size wr w' ∧ w'.cell? ⟨lg, j, none⟩ = some (.int .i64 (k : Int)) ∧ w'.cell? ⟨q, 0, none⟩ = some (.slice (some ⟨r, 0, none⟩) ss.length rc) ∧ w'.cell? ⟨r, k, none⟩ = some (.slice xa xn xc) := by
        have hd : Below wr.heap.size wr wr.drew := (Below.refl _ wr).drew
        have e2 : xn = (nts ss k).has.n := by omega
        rw [e2] at hrd2 cr ⊢
        refine (same_eq (hrd1.below hd) (hrd2.below hd) (by omega)).mono ?_
        rintro e w' ⟨rfl, h⟩
        have h1 := hd.trans h
        exact ⟨rfl, h1, (h1.cell (lt_of_cell cj)).trans cj, (h1.cell (lt_of_cell c0)).trans c0, (h1.cell (lt_of_cell cr)).trans cr⟩
      clear hH hisT hget hvi hxl hQ e hro hlp hlz hn1 hn2 h60 hrd1 hrd2 hk hNj hlcell
      have HBw := Lib.hid hBw
      have HBw2 := Lib.hid hBw2
      clear hBw hBw2
      generalize (nts ss k).has.a = ya at *
      generalize (nts ss k).has.n = yn at *
      generalize (nts ss k).has.c = yc at *
      go_wp2_with fail
      refine CG.mono ?_
      rintro e w3 ⟨rfl, rfl⟩
      clear CG
      have cjd : w3.drew.cell? ⟨lg, j, none⟩ = some (.int .i64 (k : Int)) := cj
      have c0d : w3.drew.cell? ⟨q, 0, none⟩ = some (.slice (some ⟨r, 0, none⟩) ss.length rc) := c0
      have crd : w3.drew.cell? ⟨r, k, none⟩ = some (.slice xa xn xc) := cr
      go_wp2_with fail
      go_region_held3 (fun V => V.cell? ⟨lg, j, none⟩ = some (.int .i64 (k : Int)) ∧ V.cell? ⟨q, 0, none⟩ = some (.slice (some ⟨r, 0, none⟩) ss.length rc) ∧ V.cell? ⟨r, k, none⟩ = some (.slice xa xn xc)) (first | with_reducible exact ⟨cjd, c0d, crd⟩ | with_reducible exact hS4 | fail) (first | (go_at_call 13; refine CS.mono ?_; rintro e w4 ⟨rfl, hB4, hS4⟩) | fail)
      clear CS
      go_wp2_with fail
      go_roundw
      case rel => exact ⟨j + 1, by omega, rfl, HBw.out.trans (hB4.mono HBw.out.size), HBw2.out.trans (hB4.mono HBw2.out.size)⟩
      case measure => simp [intOf]; omega
    · obtain rfl : j = nl := by omega
      have tj : ((j : Int) < (j : Int)) = False := by simp
      go_wp2
      go_ret
      exact ⟨rfl, hBw⟩
end Go.Proofs.YtbnmnmbfdfgohaaDoor
