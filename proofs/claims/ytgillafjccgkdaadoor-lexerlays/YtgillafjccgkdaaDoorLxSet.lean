/-
  Blocks begin and end.
-/
import Derived.Test.YtgillafjccgkdaaDoorLxPass
namespace Go.Proofs.YtgillafjccgkdaaDoor
open Go.RowKit Go.WideShapes
namespace Lx

set_option maxRecDepth 100000 in
set_option maxHeartbeats 1000000 in
theorem dedent_any {B : Nat} {w : World} {g d : Nat} {r : List Nat} {src : ByteArray} {s : St} (hX : RdX B w g src s) (hs : s.bs = d :: r) (hr : r.length ≤ 100) (hat : s.at_ ≤ 1000000) (hts : s.ts.length ≤ 10000000) :
    Calls Tryd.prog 31 #[.pointer (some ⟨g, 0, none⟩)] w fun e w' => e = .returned (.tuple #[]) ∧ RdX B w' g src ⟨s.at_, s.opn, r, s.ts ++ [⟨8, [], s.at_⟩]⟩ ∧ Below B w w' := by
  obtain ⟨bv, tv, h⟩ := hX
  have hb := h.bo
  rw [hs] at hb
  obtain ⟨gb, cap, rfl, hlb, hcap, -⟩ := ownsS_some hb (by simp)
  have e0 : (d :: r).length = s.bs.length := by rw [hs]
  rw [e0] at h
  have HC := Lib.hid (h.drew.cut hs)
  rw [← e0] at h
  have c3 := h.c3
  have z3 := h.b.z 3
  simp only [List.length_cons] at *
  have e1 : IntKind.i64.wrap (((r.length + 1 : Nat) : Int) - 1) = (r.length : Int) := by rw [i64_small (by omega) (by omega)]; omega
  have e2 : ((r.length + 1 : Nat) : Int) = (r.length : Int) + 1 := by omega
  have i1 : (r.length : Int) ≤ (cap : Int) := by omega
  have i2 : (0 : Int) ≤ (r.length : Int) := by omega
  have HL := Lib.hid h.lo
  have HLt := Lib.hid h.lt
  clear h hb hs hcap e0 hlb
  go_enter Tryd.func31, Tryd.ntmps31
  go_wp2_with fail
  go_region
  all_goals
    go_wp2_with fail
    refine (put_any (s := { s with bs := r }) ⟨_, _, HC.out⟩ 8 [] 0 ⟨#[]⟩ rfl hat (by omega) hts).mono ?_
    rintro e w2 ⟨rfl, h2, hb2⟩
    go_wp2
    go_end0
    exact ⟨rfl, h2, ((Below.refl B w).drew.setCell (p := ⟨g, 3, none⟩) HL.out _).trans hb2⟩

/-- What a reader gives up with. -/
def offE (c a : Nat) : Ending := .panicked [{ v := .iface 48 (.agg #[.int .i64 (c : Int), .int .i64 (a : Int)]), recovered := false }]
/-- How a call of a reader ends. -/
def EnR (B : Nat) (w : World) (g : Nat) (src : ByteArray) (a : Nat) (x : Except Nat St) (e : Ending) (w' : World) : Prop :=
  match x with
  | .error c => e = offE c a ∧ Below B w w'
  | .ok s => e = .returned (.tuple #[]) ∧ RdX B w' g src s ∧ Below B w w'
theorem last_tail {n d : Nat} {r : List Nat} (h : (d :: r).getLast? = some 0) (hn : n < d) : r ≠ [] ∧ r.getLast? = some 0 := by
  cases r with
  | nil => simp at h; omega
  | cons x t => rw [List.getLast?_cons_cons] at h; exact ⟨by simp, h⟩
set_option maxRecDepth 100000 in
set_option maxHeartbeats 2000000 in
theorem settle_deep {B : Nat} {w : World} {g d n : Nat} {r : List Nat} {src : ByteArray} {s : St} (hX : RdX B w g src s) (hs : s.bs = d :: r) (hd : d < n) (hr : r.length ≤ 40) (hat : s.at_ ≤ 1000000) (hts : s.ts.length ≤ 9000000) :
    Calls Tryd.prog 19 #[.pointer (some ⟨g, 0, none⟩), .int .i64 (n : Int)] w fun e w' => EnR B w g src s.at_ (stl n s) e w' := by
  have hX0 := hX
  have HX := Lib.hid hX
  obtain ⟨bv, tv, h⟩ := hX
  have C := depth_any h hs (by omega)
  have hdn : (d : Int) < (n : Int) := by omega
  have hdep : dep s = d := by unfold dep; rw [hs]; rfl
  have HH := Lib.hid h
  have HBw : Hid (B ≤ w.heap.size) := by have := h.lo; have := h.lt; show B ≤ _; omega
  have hlen : s.bs.length = r.length + 1 := by rw [hs]; rfl
  clear h hX0
  by_cases h40 : r.length = 40
  · have hst : stl n s = .error 107 := by unfold stl; rw [hdep, if_pos hd, if_pos (by omega)]
    rw [hst]
    show Calls Tryd.prog _ _ w fun e w' => e = offE 107 s.at_ ∧ Below B w w'
    clear hst
    go_enter Tryd.func19, Tryd.ntmps19
    go_wp2_with fail
    refine C.mono ?_
    rintro e w1 ⟨rfl, hb1⟩
    clear C
    have h1 := HH.out.below hb1
    obtain ⟨a3, cap3, rfl⟩ := ownsS_shape h1.bo
    have c3 := h1.c3
    rw [hlen, h40] at c3
    have HO := Lib.hid h1
    clear h1 hlen
    go_wp2_with fail
    refine (offend_any ⟨_, _, HO.out⟩ 107).mono ?_
    rintro e w2 ⟨rfl, rfl⟩
    exact ⟨rfl, rfl, hb1.mono HBw.out⟩
  · have hst : stl n s = .ok { s with bs := n :: s.bs, ts := s.ts ++ [⟨7, [], s.at_⟩] } := by unfold stl; rw [hdep, if_pos hd, if_neg (by omega)]
    rw [hst]
    show Calls Tryd.prog _ _ w fun e w' => e = .returned (.tuple #[]) ∧ RdX B w' g src { s with bs := n :: s.bs, ts := s.ts ++ [⟨7, [], s.at_⟩] } ∧ Below B w w'
    clear hst
    obtain ⟨i0, hi, hz0, hz1, hz2⟩ := info_parts Tryd.infoN
    go_enter Tryd.func19, Tryd.ntmps19
    go_wp2_with fail
    refine C.mono ?_
    rintro e w1 ⟨rfl, hb1⟩
    clear C
    have h1 := HH.out.below hb1
    obtain ⟨a3, cap3, rfl⟩ := ownsS_shape h1.bo
    have c3 := h1.c3
    have z3 := h1.b.z 3
    rw [hlen] at c3
    have hown := h1.bo
    rw [hlen] at hown
    have e1 : IntKind.i64.wrap (((r.length + 1 : Nat) : Int) - 1) = (r.length : Int) := by rw [i64_small (by omega) (by omega)]; omega
    have e2 : (((r.length : Nat) : Int) == 40) = false := beq_eq_false_iff_ne.2 (by omega)
    rw [hlen] at h1
    have HO := Lib.hid h1
    have HLN := Lib.hid hlen
    have HBw1 : Hid (B ≤ w1.heap.size) := by have := HBw.out; have := hb1.size; show B ≤ _; omega
    have hlt1 := h1.lt
    have HGB : Hid (∀ (o : Obj) (w5 : World), (w1.alloc o).grownBy w5 (Value.slice a3 (r.length + 1) cap3).ownBlock → w5.heap[g]? = w1.heap[g]?) := fun o w5 hg => (hg.block g (by simp; exact Nat.lt_succ_of_lt hlt1) (fun e => h1.bg e.symm)).trans (Below.heap_alloc _ _ _ hlt1)
    have c3a : ∀ o, (w1.alloc o).cell? ⟨g, 3, none⟩ = some (.slice a3 (r.length + 1) cap3) := fun o => (World.cell?_of_block (a := ⟨g, 3, none⟩) (Below.heap_alloc w1 o g hlt1)).trans c3
    clear h1 hlen hs h40 hlt1 hdep
    have HR := Lib.hid hr
    generalize r.length = m at *
    go_wp2_with (at_builtin; refine wpListS_append_own rfl _ _ 23 rfl B 3 i0 (.int .i64 0) 1 8 Tryd.underlying23 hi hz0 hz1 hz2 rfl (by decide) _ _ _ rfl (World.ownsRow.alloc hown _) ⟨w1.heap.size, 0, none⟩ 1 1 [.int .i64 (n : Int)] rfl rfl (newR_one _ _ _) (fun u hu => by simp at hu; subst hu; rfl) (by unfold maxLen; omega) (by omega) (by have := HBw1.out; simp; omega) ?_)
    intro v' w5 hown2 hgrow hat2
    obtain ⟨a5, cap5, rfl⟩ := ownsS_shape hown2
    have hb5 := HGB.out _ w5 hgrow
    have g3 := (World.cell?_of_block (a := ⟨g, 3, none⟩) hb5).trans c3
    have gz3 := (World.frozen?_of_block (a := ⟨g, 3, none⟩) hb5).trans z3
    have HK : Hid (Rd B (w5.setCell ⟨g, 3, none⟩ (.slice a5 (m + 1 + 1) cap5)) g src { s with bs := n :: s.bs } (.slice a5 (m + 1 + 1) cap5) tv ∧ Below B w1 (w5.setCell ⟨g, 3, none⟩ (.slice a5 (m + 1 + 1) cap5))) := by
      have h1 := HO.out
      have hl := HLN.out
      refine h1.blk (d := n) ?_ hgrow (by rw [show (w1.alloc (.cells #[.int .i64 (n : Int)] 3)).heap.size = w1.heap.size + 1 by simp]; exact hat2)
      rw [hl]
      exact hown2
    clear hown2 hgrow hat2 hb5 hown c3a
    go_wp2_with fail
    refine (put_any (s := { s with bs := n :: s.bs }) ⟨_, _, HK.out.1⟩ 7 [] 0 ⟨#[]⟩ rfl hat (by omega) (by simp only; omega)).mono ?_
    rintro e w6 ⟨rfl, h6, hb6⟩
    go_wp2_with fail
    refine bodyPost_ret (results_none rfl _ _ _) rfl ?_
    exact ⟨rfl, h6, ((hb1.mono HBw.out).trans HK.out.2).trans hb6⟩
theorem ded_go {n a d : Nat} {r : List Nat} {ts : List Tok} (h : n < d) : ded n a (d :: r) ts = ded n a r (ts ++ [⟨8, [], a⟩]) := by rw [ded, if_pos h]
theorem ded_stop {n a d : Nat} {r : List Nat} {ts : List Tok} (h : ¬ n < d) : ded n a (d :: r) ts = (d :: r, ts) := by rw [ded, if_neg h]
set_option maxRecDepth 100000 in
set_option maxHeartbeats 2000000 in
theorem settle_flat {B : Nat} {w : World} {g d n : Nat} {r : List Nat} {src : ByteArray} {s : St} (hX : RdX B w g src s) (hs : s.bs = d :: r) (hd : ¬ d < n) (hlast : s.bs.getLast? = some 0) (hr : r.length ≤ 40) (hat : s.at_ ≤ 1000000) (hts : s.ts.length ≤ 9000000) :
    Calls Tryd.prog 19 #[.pointer (some ⟨g, 0, none⟩), .int .i64 (n : Int)] w fun e w' => EnR B w g src s.at_ (stl n s) e w' := by
  have HX := Lib.hid hX
  have HBw : Hid (B ≤ w.heap.size) := by obtain ⟨_, _, h⟩ := hX; have := h.lo; have := h.lt; show B ≤ _; omega
  obtain ⟨bv, tv, h⟩ := hX
  have C := depth_any h hs (by omega)
  have hdn : ¬ (d : Int) < (n : Int) := by omega
  have hdep : dep s = d := by unfold dep; rw [hs]; rfl
  have HDD : Hid (¬ dep s < n) := by rw [hdep]; exact hd
  have HS := Lib.hid hs
  have HLA := Lib.hid hlast
  have HR := Lib.hid hr
  clear h hdep hs hlast hr
  generalize hER : EnR B w g src s.at_ (stl n s) = ER
  have HER := Lib.hid hER
  clear hER
  go_enter Tryd.func19, Tryd.ntmps19
  go_wp2_with fail
  refine C.mono ?_
  rintro e w1 ⟨rfl, hb1⟩
  clear C
  have HB1 := Lib.hid hb1
  clear hb1
  go_wp2_with fail
  go_loopg [] s.bs.length (fun gk wr => ∃ d r ts, r.length ≤ gk ∧ (d :: r).getLast? = some 0 ∧ r.length ≤ 40 ∧ ts.length + r.length ≤ 9000100 ∧ ded n s.at_ (d :: r) ts = ded n s.at_ s.bs s.ts ∧ RdX B wr g src ⟨s.at_, s.opn, d :: r, ts⟩ ∧ Below B w wr)
  case atStart => exact ⟨d, r, s.ts, by rw [HS.out]; exact Nat.le_succ _, by rw [← HS.out]; exact HLA.out, HR.out, by have := HR.out; omega, by rw [HS.out], by rw [← HS.out]; exact HX.out.below HB1.out, HB1.out.mono HBw.out⟩
  case round =>
    obtain ⟨d1, r1, ts1, hgk, hl1, hr1, ht1, hded, hX1, hB⟩ := hrel
    have HX1 := Lib.hid hX1
    have HB := Lib.hid hB
    have HD := Lib.hid hded
    have HL1 := Lib.hid hl1
    have HBr : Hid (B ≤ wr.heap.size) := by have := HBw.out; have := hB.size; show B ≤ _; omega
    obtain ⟨bv1, tv1, h1⟩ := hX1
    have C := depth_any h1 rfl (by omega)
    clear h1 hB hded hl1
    by_cases hlt : n < d1
    · have hlt2 : (n : Int) < (d1 : Int) := by omega
      have hne := (last_tail HL1.out hlt).1
      have hla := (last_tail HL1.out hlt).2
      cases r1 with
      | nil => exact absurd rfl hne
      | cons d2 r2 =>
        have HA := Lib.hid hla
        have HLT := Lib.hid hlt
        simp only [List.length_cons] at hgk hr1 ht1
        clear hne hla hlt
        go_wp2_with fail
        refine C.mono ?_
        rintro e w2 ⟨rfl, hb2⟩
        clear C
        have C2 := dedent_any (HX1.out.below hb2) rfl (by simp; omega) hat (by show ts1.length ≤ _; omega)
        simp only at C2
        go_wp2_with fail
        refine C2.mono ?_
        rintro e w3 ⟨rfl, h3, hb3⟩
        clear C2
        go_wp2_with fail
        go_roundg r2.length
        case measure => omega
        case rel => exact ⟨d2, r2, _, Nat.le_refl _, HA.out, by omega, by simp; omega, by rw [← HD.out, ded_go HLT.out], h3, (HB.out.trans (hb2.mono HBr.out)).trans hb3⟩
    · have hlt2 : ¬ (n : Int) < (d1 : Int) := by omega
      have hfin := HD.out
      rw [ded_stop hlt] at hfin
      have HF := Lib.hid hfin
      clear hfin
      by_cases hnd : n = d1
      · have hst : stl n s = .ok ⟨s.at_, s.opn, d1 :: r1, ts1⟩ := by
          unfold stl
          rw [if_neg HDD.out, ← HF.out]
          simp only [List.headD_cons]
          exact if_pos hnd
        have hER := HER.out
        rw [hst] at hER
        have HQ := Lib.hid hER
        have tn : (((n : Nat) : Int) != ((d1 : Nat) : Int)) = false := by simp [hnd]
        clear hst hER hnd hlt
        go_wp2_with fail
        refine C.mono ?_
        rintro e w2 ⟨rfl, hb2⟩
        clear C
        go_wp2_with fail
        have h2 := HX1.out.below hb2
        have hB2 := HB.out.trans (hb2.mono HBr.out)
        have HB2 := Lib.hid hB2
        have HH2 := Lib.hid h2
        obtain ⟨bv2, tv2, h2⟩ := h2
        have C3 := depth_any h2 rfl (by omega)
        clear h2 hB2 hb2
        refine C3.mono ?_
        rintro e w3 ⟨rfl, hb3⟩
        clear C3
        go_wp2_with fail
        go_end0
        rw [← HQ.out]
        exact ⟨rfl, HH2.out.below hb3, HB2.out.trans (hb3.mono (by have := HB2.out.size; have := HBw.out; omega))⟩
      · have hst : stl n s = .error 103 := by
          unfold stl
          rw [if_neg HDD.out, ← HF.out]
          simp only [List.headD_cons]
          exact if_neg hnd
        have hER := HER.out
        rw [hst] at hER
        have HQ := Lib.hid hER
        have tn : (((n : Nat) : Int) != ((d1 : Nat) : Int)) = true := by simp; omega
        clear hst hER hlt
        go_wp2_with fail
        refine C.mono ?_
        rintro e w2 ⟨rfl, hb2⟩
        clear C
        go_wp2_with fail
        have h2 := HX1.out.below hb2
        have hB2 := HB.out.trans (hb2.mono HBr.out)
        have HB2 := Lib.hid hB2
        have HH2 := Lib.hid h2
        obtain ⟨bv2, tv2, h2⟩ := h2
        have C3 := depth_any h2 rfl (by omega)
        clear h2 hB2 hb2
        refine C3.mono ?_
        rintro e w3 ⟨rfl, hb3⟩
        clear C3
        go_wp2_with fail
        refine (offend_any (HH2.out.below hb3) 103).mono ?_
        rintro e w4 ⟨rfl, rfl⟩
        refine ⟨rfl, ?_⟩
        rw [← HQ.out]
        exact ⟨rfl, HB2.out.trans (hb3.mono (by have := HB2.out.size; have := HBw.out; omega))⟩
theorem settle_any {B : Nat} {w : World} {g n : Nat} {src : ByteArray} {s : St} (hX : RdX B w g src s) (hne : s.bs ≠ []) (hlast : s.bs.getLast? = some 0) (hr : s.bs.length ≤ 41) (hat : s.at_ ≤ 1000000) (hts : s.ts.length ≤ 9000000) :
    Calls Tryd.prog 19 #[.pointer (some ⟨g, 0, none⟩), .int .i64 (n : Int)] w fun e w' => EnR B w g src s.at_ (stl n s) e w' := by
  cases hs : s.bs with
  | nil => exact absurd hs hne
  | cons d r =>
    rw [hs] at hr
    simp only [List.length_cons] at hr
    by_cases hd : d < n
    · exact settle_deep hX hs hd (by omega) hat hts
    · exact settle_flat hX hs hd hlast (by omega) hat hts
end Lx
end Go.Proofs.YtgillafjccgkdaaDoor
