/-
  The law SweepMarks.
-/
import Derived.Test.YtbnmnmbfdfgohaaDoorSwAwake
namespace Go.Proofs.YtbnmnmbfdfgohaaDoor
open Go.RowKit Go.WideShapes

theorem LdV.below {w w' : World} {B g q : Nat} {ss rs : List So} (h : LdV w B g q ss rs) (hb : Below w.heap.size w w') : LdV w' B g q ss rs := by
  obtain ⟨X, Y, Z, h⟩ := h
  exact ⟨X, Y, Z, h.below hb⟩
theorem LdV.ref {w : World} {B g q : Nat} {ss rs : List So} (h : LdV w B g q ss rs) : (∃ lv tv vs, Rq w q rs lv tv vs B) ∧ B ≤ w.heap.size ∧ ∀ k, (nts rs k).taken = true → (nts rs k).has.l.length ≤ 1000 := by
  obtain ⟨X, Y, Z, h⟩ := h
  obtain ⟨lv, tv, vs, hq, _, _, hB⟩ := h.rq
  exact ⟨⟨lv, tv, vs, hq⟩, hB, fun k hk => by have := h.lr k hk; omega⟩
/-- The reference's Mark tells the same. -/
theorem ldrmark_any {w : World} {B g q : Nat} {ss rs : List So} (h : LdV w B g q ss rs) {ra : Option Addr} {rn rc : Nat} {R : List Int} (hR : Lz w w.heap.size ra rn rc R) (hRl : R.length ≤ 100000) :
    Calls Tryd.prog 14 #[.pointer (some ⟨q, 0, none⟩), .slice ra rn rc] w fun e w' => ∃ v f, e = .returned v ∧ IntsR w.heap.size w' v (nbs f rs.length) ∧ (∀ k, f k = true ↔ Rch (tk rs) (lsOf true rs) R k) ∧ LdV w' B g q ss rs ∧ Below w.heap.size w w' := by
  obtain ⟨⟨lv, tv, vs, hq⟩, hB, hl⟩ := h.ref
  refine (rmark_any hq hB hl hR hRl).mono ?_
  rintro e w' ⟨v, f, rfl, h1, h2, h3⟩
  exact ⟨v, f, rfl, h1, h2, h.below h3, h3⟩
theorem nbs_same {f g : Nat → Bool} {P : Nat → Prop} {n : Nat} (h1 : ∀ k, f k = true ↔ P k) (h2 : ∀ k, g k = true ↔ P k) : nbs f n = nbs g n := nbs_ext (fun k _ => by
  cases e : f k with
  | true => exact ((h2 k).2 ((h1 k).1 e)).symm
  | false =>
    cases e2 : g k with
    | false => rfl
    | true =>
      have := (h1 k).2 ((h2 k).1 e2)
      rw [e] at this
      cases this)
/-- A copied list with a number more: its first part. -/
theorem snoc_lz {B : Nat} {w : World} {g n cap : Nat} {l : List Int} {d : Int} (h : IntsR B w (.slice (some ⟨g, 0, none⟩) n cap) (l ++ [d])) (hb : ∀ x ∈ l, -9223372036854775808 ≤ x ∧ x ≤ 9223372036854775807) : Lz w w.heap.size (some ⟨g, 0, none⟩) l.length cap l ∧ w.cell? ⟨g, l.length, none⟩ = some (.int .i64 d) ∧ l.length ≤ cap ∧ B ≤ g ∧ g < w.heap.size := by
  obtain ⟨a, c, g', hv, hc, ho⟩ := h.open
  injection hv with e1 e2 e3
  obtain ⟨ha, hlt, hge, hcl, _⟩ := ho (by simp)
  rw [← e1] at ha
  injection ha with ha
  injection ha with ha
  subst ha e3
  have hlen : (l ++ [d]).length = l.length + 1 := by simp
  rw [hlen] at hc hcl
  refine ⟨⟨rfl, by omega, hb, g, 0, fun _ => ⟨rfl, hlt⟩, fun j hj => ?_⟩, ?_, by omega, hge, hlt⟩
  · rw [Nat.zero_add, hcl j (by omega), List.getElem?_append_left hj]
  · rw [hcl l.length (by omega)]
    simp
set_option maxRecDepth 100000 in
set_option maxHeartbeats 2000000 in
theorem smarks_walk (a0 : Option Addr) (n0 c0 : Nat) (G : Nat → Sh) (a1 : Option Addr) (n1 c1 : Nat) (F : List Int) (a2 : Option Addr) (n2 c2 : Nat) (R : List Int) (w : World) (h0 : LLs w a0 n0 c0 G) (h1 : Lz w w.heap.size a1 n1 c1 F) (h2 : Lz w w.heap.size a2 n2 c2 R) (hnn : a2 = none → c2 = 0) (hT : Tab w) :
    Calls Tryd.prog 3 #[.slice a0 n0 c0, .slice a1 n1 c1, .slice a2 n2 c2] w fun e w' => e = .returned (.bool true) ∧ Below w.heap.size w w' := by
  have CL := large_any h0 a2 n2 c2
  have htl := hT.lt
  have HT := Lib.hid hT
  have H0 := Lib.hid h0
  have H1 := Lib.hid h1
  have H2 := Lib.hid h2
  obtain ⟨i0, hi, hz0, hz1, hz2⟩ := info_parts Tryd.infoN
  clear h0 h1 h2 hT
  go_enter Tryd.func3, Tryd.ntmps3
  go_wp2_with fail
  refine CL.mono ?_
  rintro e w0 ⟨b, rfl, hLa, rfl⟩
  clear CL
  cases b with
  | true =>
    have CA := awake12_any w0 HT.out
    go_wp2_with fail
    refine CA.mono ?_
    rintro e w1 ⟨rfl, hB⟩
    clear CA
    go_wp2
    go_ret
    exact ⟨rfl, hB⟩
  | false =>
    obtain ⟨hn0, hn2, h60⟩ := hLa rfl
    have CD := laid_any H0.out hn0 h60 H1.out
    clear hLa
    go_wp2_with fail
    refine CD.mono ?_
    rintro e w1 ⟨g, q, ss, rfl, hL⟩
    clear CD
    have hB1 := hL.be
    have hlen := hL.len
    obtain ⟨v2, w2, hrun, hcp⟩ := copy_run ((H2.out.below hB1).mono hB1.size) hnn (by omega)
    have hR2 : n2 = R.length := H2.out.1
    have hown : w2.ownsRow w1.heap.size 3 1 v2 R.length (R.map fun x : Int => Value.int .i64 x) := hcp.ow
    obtain ⟨va, vc, rfl⟩ := ownsS_shape hown
    have hs2 := hcp.be.size
    have HRUN := Lib.hid hrun
    have HLD1 := Lib.hid hL.ld
    have HB12 := Lib.hid hcp.be
    have HB1 := Lib.hid hB1
    have HLEN := Lib.hid hlen
    have HR2 := Lib.hid hR2
    have hRl : R.length ≤ 200 := by omega
    clear hrun hcp hB1 hL hlen hR2
    go_upto_region 8 with (at_builtin; refine wpListS_append_run rfl _ _ 23 23 rfl _ _ _ rfl rfl HRUN.out ?_)
    go_wp2_with (at_builtin; refine wpListS_append_own rfl _ _ 23 rfl w1.heap.size 3 i0 (.int .i64 0) 1 8 Tryd.underlying23 hi hz0 hz1 hz2 rfl (by decide) _ _ _ rfl (World.ownsRow.alloc hown _) ⟨w2.heap.size, 0, none⟩ 1 1 [.int .i64 77] rfl rfl (newR_one _ _ _) (fun u hu => by simp at hu; subst hu; rfl) (by unfold maxLen; omega) (by omega) (by simp; omega) ?_)
    intro v' w3 hown2 hgrow hat
    have hI3 := intsR_snoc hown2
    have hB13 : Below w1.heap.size w1 w3 := HB12.out.trans (belowR_grown (Below.refl _ w2) hs2 hown hgrow)
    have hLd3 := HLD1.out.below hB13
    have hB3 : Below w0.heap.size w0 w3 := HB1.out.trans (hB13.mono HB1.out.size)
    obtain ⟨gx, cx, rfl, _⟩ := ownsS_some hown2 (by omega)
    obtain ⟨hlx, hcx, hcap, _, hgx⟩ := snoc_lz hI3 H2.out.2.2.1
    rw [← HR2.out] at hlx hcx hcap
    have CM := ldmark_any hLd3 (by have := HLEN.out; omega) true hlx (by omega) (HT.out.below hB3 htl)
    unfold ldV at CM
    simp only [if_true] at CM
    have t1 : (n2 : Int) ≤ (cx : Int) := by omega
    have t2 : (0 : Int) ≤ (n2 : Int) := by omega
    have HLX := Lib.hid hlx
    have HCX := Lib.hid hcx
    have HB3 := Lib.hid hB3
    clear hown2 hgrow hat hI3 hB13 hLd3 hown HLD1 HB12 HB1 hlx hcx hB3
    generalize hn3 : R.length + 1 = n3 at *
    have HN3 : Hid (n2 < n3) := by show n2 < n3; rw [HR2.out]; omega
    clear hn3
    go_wp2_with fail
    refine CM.mono ?_
    clear CM
    rintro e w4 ⟨v4, f4, rfl, hI4, hf4, hLd4, hB34⟩
    have hB4 : Below w0.heap.size w0 w4 := HB3.out.trans (hB34.mono HB3.out.size)
    have CR := ldrmark_any hLd4 ((H2.out.below hB4).mono hB4.size) (by omega)
    have HI4 := Lib.hid hI4
    have HF4 := Lib.hid hf4
    have HB34 := Lib.hid hB34
    have HB4 := Lib.hid hB4
    clear hI4 hf4 hLd4 hB34 hB4 HB3
    obtain ⟨a4, c4, rfl, hrd4⟩ := HI4.out.rdl
    have HRD4 := Lib.hid hrd4
    clear hrd4
    go_wp2_with fail
    refine CR.mono ?_
    clear CR
    rintro e w5 ⟨v5, f5, rfl, hI5, hf5, hLd5, hB45⟩
    have hsame : nbs f5 ss.length = nbs f4 ss.length := nbs_same hf5 HF4.out
    rw [hsame] at hI5
    obtain ⟨a5, c5, rfl, hrd5⟩ := hI5.rdl
    have hle := nbs_le f4 ss.length
    have CS := same_eq (c1 := c4) (c2 := c5) (HRD4.out.below hB45) hrd5 (by have := HLEN.out; omega)
    have HB35 := Lib.hid (HB34.out.trans (hB45.mono HB34.out.size))
    have HB5 := Lib.hid (HB4.out.trans (hB45.mono HB4.out.size))
    have HLD5 := Lib.hid hLd5
    clear hI5 hf5 hLd5 hB45 hsame hrd5 HB34 HB4 HF4 HI4 HRD4 hle
    generalize (nbs f4 ss.length).length = nm at *
    go_wp2_with fail
    refine CS.mono ?_
    clear CS
    rintro e w6 ⟨rfl, hB56⟩
    have CT := wtaken_any (HLD5.out.below hB56) (by have := HLEN.out; omega)
    have HB36 := Lib.hid (HB35.out.trans (hB56.mono HB35.out.size))
    have HB6 := Lib.hid (HB5.out.trans (hB56.mono HB5.out.size))
    clear HLD5 hB56 HB35 HB5
    go_wp2_with fail
    refine CT.mono ?_
    clear CT
    rintro e w7 ⟨rfl, hB67⟩
    have hB37 := HB36.out.trans (hB67.mono HB36.out.size)
    have hB7 := HB6.out.trans (hB67.mono HB6.out.size)
    have CS2 := same_eq (c1 := cx) (c2 := c2) ((HLX.out.rdl).below hB37) (((H2.out.below hB7).mono hB7.size).rdl) (by omega)
    have HB37 := Lib.hid hB37
    have HB7 := Lib.hid hB7
    clear hB67 hB37 hB7 HB36 HB6
    go_wp2_with fail
    refine CS2.mono ?_
    clear CS2
    rintro e w8 ⟨rfl, hB78⟩
    have hB38 := HB37.out.trans (hB78.mono HB37.out.size)
    have hB8 := HB7.out.trans (hB78.mono HB7.out.size)
    have c8 := (hB38.cell (p := ⟨gx, n2, none⟩) hgx).trans HCX.out
    have CA := awake12_any w8 (HT.out.below hB8 htl)
    have t3 : (n2 : Int) < (n3 : Int) := by have := HN3.out; omega
    have HB8 := Lib.hid hB8
    clear hB78 hB38 hB8 HB37 HB7
    go_wp2_with fail
    refine CA.mono ?_
    rintro e w9 ⟨rfl, hB89⟩
    clear CA
    go_wp2
    go_ret
    exact ⟨rfl, HB8.out.trans (hB89.mono HB8.out.size)⟩
end Go.Proofs.YtbnmnmbfdfgohaaDoor
