/-
  The document's own lexer: a line begins.
-/
import Derived.Test.YtkppnncpejohgaaDoorLxRf
namespace Go.Proofs.YtkppnncpejohgaaDoor
open Go.RowKit Go.WideShapes
namespace Lx

/-- How a call of it ends: where it faults nothing but the fault counts. -/
def FnR (B : Nat) (w : World) (g : Nat) (sv : Value) (a : Nat) (x : Except Nat St) (w' : World) : Prop :=
  match x with
  | .error c => (∃ s, RfX B w' g sv s c a) ∧ Below B w w'
  | .ok s => RfX B w' g sv s 0 0 ∧ Below B w w'
set_option maxRecDepth 100000 in
set_option maxHeartbeats 4000000 in
theorem begin_deep {B : Nat} {w : World} {g d n : Nat} {r : List Nat} {sv : Value} {s : St} (hX : RfX B w g sv s 0 0) (hs : s.bs = d :: r) (hd : d < n) (hr : r.length ≤ 40) (hts : s.ts.length ≤ 9000000) :
    Calls Tryd.prog 19 #[.pointer (some ⟨g, 0, none⟩), .int .i64 (n : Int), .int .i64 (s.at_ : Int)] w fun e w' => e = .returned (.tuple #[]) ∧ FnR B w g sv s.at_ (stl n s) w' := by
  have HX := Lib.hid hX
  have HBw := Lib.hid hX.lo
  obtain ⟨dv, tv, h⟩ := hX
  have hdn : (d : Int) < (n : Int) := by omega
  have hdep : dep s = d := by unfold dep; rw [hs]; rfl
  have hlen : s.bs.length = r.length + 1 := by rw [hs]; rfl
  have hb := h.bo
  rw [hs] at hb
  obtain ⟨gb, cap, rfl, hlb, hcap, -⟩ := ownsS_some hb (by simp)
  have cb := ownsS_cell hb r.length _ (bsl_top d r)
  have c2 : w.cell? ⟨g, 2, none⟩ = some (.slice (some ⟨gb, 0, none⟩) (d :: r).length cap) := h.b.c 2 (by omega)
  have z2 := h.b.z 2
  have HH := Lib.hid h
  have hlt := h.lt
  have hbg := h.bg
  simp only [List.length_cons] at *
  have e1 : IntKind.i64.wrap (((r.length + 1 : Nat) : Int) - 1) = (r.length : Int) := by rw [i64_small (by omega) (by omega)]; omega
  have e2 : ((r.length + 1 : Nat) : Int) = (r.length : Int) + 1 := by omega
  have i1 : (r.length : Int) < ((r.length + 1 : Nat) : Int) := by omega
  have i2 : (0 : Int) ≤ (r.length : Int) := by omega
  by_cases h40 : r.length = 40
  · have hst : stl n s = .error 107 := by unfold stl; rw [hdep, if_pos hd, if_pos (by omega)]
    rw [hst]
    show Calls Tryd.prog _ _ w fun e w' => e = .returned (.tuple #[]) ∧ (∃ s', RfX B w' g sv s' 107 s.at_) ∧ Below B w w'
    clear h hb hs hst hcap
    have k40 : (40 : Int) < ((r.length + 1 : Nat) : Int) := by omega
    clear h40
    generalize r.length = m at *
    go_enter Tryd.func19, Tryd.ntmps19
    go_wp2_with fail
    go_quiet (fail)
    go_wp2_with fail
    refine (fault_any (HX.out.below (below_drewN (Below.refl _ w) _)) 107 s.at_ _ _ rfl rfl).mono ?_
    rintro e w2 ⟨rfl, h2, hb2⟩
    go_wp2_with fail
    refine bodyPost_ret (results_none rfl _ _ _) rfl ?_
    exact ⟨rfl, ⟨_, h2⟩, (below_drewN (Below.refl B w) _).trans hb2⟩
  · have hst : stl n s = .ok { s with bs := n :: s.bs, ts := s.ts ++ [⟨7, [], s.at_⟩] } := by unfold stl; rw [hdep, if_pos hd, if_neg (by omega)]
    rw [hst]
    show Calls Tryd.prog _ _ w fun e w' => e = .returned (.tuple #[]) ∧ RfX B w' g sv { s with bs := n :: s.bs, ts := s.ts ++ [⟨7, [], s.at_⟩] } 0 0 ∧ Below B w w'
    have k40 : ¬ (40 : Int) < ((r.length + 1 : Nat) : Int) := by omega
    obtain ⟨i0, hi, hz0, hz1, hz2⟩ := info_parts Tryd.infoN
    have HO : Hid (∀ q, Rf B (w.drewN q) g sv s 0 0 (.slice (some ⟨gb, 0, none⟩) (r.length + 1) cap) tv) := fun q => h.below (below_drewN (Below.refl _ w) q)
    have HOW : Hid (∀ q, (w.drewN q).ownsRow B 3 1 (.slice (some ⟨gb, 0, none⟩) (r.length + 1) cap) (r.length + 1) (bsl s.bs)) := fun q => by
      have := (h.below (below_drewN (Below.refl _ w) q)).bo
      rw [hlen] at this
      exact this
    have HGB : Hid (∀ (q : Nat) (o : Obj) (w5 : World), ((w.drewN q).alloc o).grownBy w5 (Value.slice (some ⟨gb, 0, none⟩) (r.length + 1) cap).ownBlock → w5.heap[g]? = w.heap[g]?) := fun q o w5 hg => (hg.block g (by simp; exact Nat.lt_succ_of_lt hlt) (fun e => hbg e.symm)).trans (Below.heap_alloc (w.drewN q) _ _ hlt)
    have c2a : ∀ o, (w.alloc o).cell? ⟨g, 2, none⟩ = some (.slice (some ⟨gb, 0, none⟩) (r.length + 1) cap) := fun o => (World.cell?_of_block (a := ⟨g, 2, none⟩) (Below.heap_alloc w o g hlt)).trans c2
    have c2b : ∀ q o, ((w.drewN q).alloc o).cell? ⟨g, 2, none⟩ = some (.slice (some ⟨gb, 0, none⟩) (r.length + 1) cap) := fun q o => (World.cell?_of_block (a := ⟨g, 2, none⟩) (Below.heap_alloc (w.drewN q) o g hlt)).trans c2
    have HLN := Lib.hid hlen
    have HR := Lib.hid hr
    clear h hb hs hst hcap h40 hlen hdep hbg hlt
    generalize r.length = m at *
    go_enter Tryd.func19, Tryd.ntmps19
    go_wp2_with fail
    go_quiet (fail)
    rename_i nq
    go_wp2_with (at_builtin; refine wpListS_append_own rfl _ _ 37 rfl B 3 i0 (.int .i64 0) 1 8 Tryd.underlying37 hi hz0 hz1 hz2 rfl (by decide) _ _ _ rfl (World.ownsRow.alloc (HOW.out nq) _) ⟨w.heap.size, 0, none⟩ 1 1 [.int .i64 (n : Int)] rfl rfl (newR_one (w.drewN nq) _ _) (fun u hu => by simp at hu; subst hu; rfl) (by unfold maxLen; have := HR.out; omega) (by have := HR.out; omega) (by have := HBw.out; simp; omega) ?_)
    intro v' w5 hown2 hgrow hat2
    obtain ⟨a5, cap5, rfl⟩ := ownsS_shape hown2
    have hb5 := HGB.out _ _ w5 hgrow
    have g2 := (World.cell?_of_block (a := ⟨g, 2, none⟩) hb5).trans c2
    have gz2 := (World.frozen?_of_block (a := ⟨g, 2, none⟩) hb5).trans z2
    have HK : Hid (Rf B (w5.setCell ⟨g, 2, none⟩ (.slice a5 (m + 1 + 1) cap5)) g sv { s with bs := n :: s.bs } 0 0 (.slice a5 (m + 1 + 1) cap5) tv ∧ Below B (w.drewN nq) (w5.setCell ⟨g, 2, none⟩ (.slice a5 (m + 1 + 1) cap5))) := by
      have h1 := HO.out nq
      have hl := HLN.out
      refine h1.blk (d := n) ?_ hgrow (by rw [show ((w.drewN nq).alloc (.cells #[.int .i64 (n : Int)] 3)).heap.size = (w.drewN nq).heap.size + 1 by simp]; exact hat2)
      rw [hl]
      exact hown2
    clear hown2 hgrow hat2 hb5 c2a c2b
    go_wp2_with fail
    refine (add_any (s := { s with bs := n :: s.bs }) ⟨_, _, HK.out.1⟩ 7 [] s.at_ ⟨#[]⟩ _ rfl rfl (by simp only; omega)).mono ?_
    rintro e w6 ⟨rfl, h6, hb6⟩
    go_wp2_with fail
    refine bodyPost_ret (results_none rfl _ _ _) rfl ?_
    exact ⟨rfl, h6, ((below_drewN (Below.refl B w) _).trans HK.out.2).trans hb6⟩
set_option maxRecDepth 100000 in
set_option maxHeartbeats 4000000 in
theorem begin_flat {B : Nat} {w : World} {g d n : Nat} {r : List Nat} {sv : Value} {s : St} (hX : RfX B w g sv s 0 0) (hs : s.bs = d :: r) (hd : ¬ d < n) (hlast : s.bs.getLast? = some 0) (hr : r.length ≤ 40) (hts : s.ts.length ≤ 9000000) :
    Calls Tryd.prog 19 #[.pointer (some ⟨g, 0, none⟩), .int .i64 (n : Int), .int .i64 (s.at_ : Int)] w fun e w' => e = .returned (.tuple #[]) ∧ FnR B w g sv s.at_ (stl n s) w' := by
  have HX := Lib.hid hX
  have HBw := Lib.hid hX.lo
  obtain ⟨dv, tv, h⟩ := hX
  have hdn : ¬ (d : Int) < (n : Int) := by omega
  have hdep : dep s = d := by unfold dep; rw [hs]; rfl
  have HDD : Hid (¬ dep s < n) := by rw [hdep]; exact hd
  have hb := h.bo
  rw [hs] at hb
  obtain ⟨gb, cap, rfl, hlb, hcap, -⟩ := ownsS_some hb (by simp)
  have cb := ownsS_cell hb r.length _ (bsl_top d r)
  have c2 : w.cell? ⟨g, 2, none⟩ = some (.slice (some ⟨gb, 0, none⟩) (d :: r).length cap) := h.b.c 2 (by omega)
  simp only [List.length_cons] at c2 cb hcap
  have e1 : IntKind.i64.wrap (((r.length + 1 : Nat) : Int) - 1) = (r.length : Int) := by rw [i64_small (by omega) (by omega)]; omega
  have e2 : ((r.length + 1 : Nat) : Int) = (r.length : Int) + 1 := by omega
  have i1 : (r.length : Int) < ((r.length + 1 : Nat) : Int) := by omega
  have i2 : (0 : Int) ≤ (r.length : Int) := by omega
  have HS := Lib.hid hs
  have HLA := Lib.hid hlast
  have HR := Lib.hid hr
  generalize hER : FnR B w g sv s.at_ (stl n s) = ER
  have HER := Lib.hid hER
  clear hER h hdep hs hlast hb hcap hlb
  obtain ⟨m, hm⟩ : ∃ m, r.length = m := ⟨_, rfl⟩
  rw [hm] at c2 cb e1 e2 i1 i2 hr
  clear hm
  go_enter Tryd.func19, Tryd.ntmps19
  go_wp2_with fail
  go_quiet (fail)
  clear c2 cb e1 e2 i1 i2 hr
  go_wp2_with fail
  go_loopg [] s.bs.length (fun gk wr => ∃ d r ts, r.length ≤ gk ∧ (d :: r).getLast? = some 0 ∧ r.length ≤ 40 ∧ ts.length + r.length ≤ 9000100 ∧ ded n s.at_ (d :: r) ts = ded n s.at_ s.bs s.ts ∧ RfX B wr g sv ⟨s.at_, s.opn, d :: r, ts⟩ 0 0 ∧ Below B w wr)
  case atStart => exact ⟨d, r, s.ts, by rw [HS.out]; exact Nat.le_succ _, by rw [← HS.out]; exact HLA.out, HR.out, by have := HR.out; omega, by rw [HS.out], by rw [← HS.out]; exact HX.out.below (below_drewN (Below.refl _ w) _), below_drewN (Below.refl _ w) _⟩
  case round =>
    obtain ⟨d1, r1, ts1, hgk, hl1, hr1, ht1, hded, hX1, hB⟩ := hrel
    have HX1 := Lib.hid hX1
    have HB := Lib.hid hB
    have HD := Lib.hid hded
    have HL1 := Lib.hid hl1
    have HBr : Hid (B ≤ wr.heap.size) := by have := HBw.out; have := hB.size; show B ≤ _; omega
    obtain ⟨dv1, tv1, h1⟩ := hX1
    have hb := h1.bo
    obtain ⟨gb1, cap1, rfl, hlb, hcap, -⟩ := ownsS_some hb (by simp)
    have cb := ownsS_cell hb r1.length _ (bsl_top d1 r1)
    have c2 : wr.cell? ⟨g, 2, none⟩ = some (.slice (some ⟨gb1, 0, none⟩) (d1 :: r1).length cap1) := h1.b.c 2 (by omega)
    have z2 := h1.b.z 2
    simp only [List.length_cons] at c2 cb hcap
    have e1 : IntKind.i64.wrap (((r1.length + 1 : Nat) : Int) - 1) = (r1.length : Int) := by rw [i64_small (by omega) (by omega)]; omega
    have e2 : ((r1.length + 1 : Nat) : Int) = (r1.length : Int) + 1 := by omega
    have i1 : (r1.length : Int) < ((r1.length + 1 : Nat) : Int) := by omega
    have i2 : (0 : Int) ≤ (r1.length : Int) := by omega
    have i3 : (r1.length : Int) ≤ (cap1 : Int) := by omega
    have HC : Hid (∀ q, Rf B (((wr.drewN q).drew).setCell ⟨g, 2, none⟩ (.slice (some ⟨gb1, 0, none⟩) r1.length cap1)) g sv ⟨s.at_, s.opn, r1, ts1⟩ 0 0 (.slice (some ⟨gb1, 0, none⟩) r1.length cap1) tv1) := fun q => by
      have h2 := (h1.below (below_drewN (Below.refl _ wr) q)).below (Below.refl _ _).drew
      exact Rf.cut (s := ⟨s.at_, s.opn, d1 :: r1, ts1⟩) rfl h2
    clear h1 hB hded hl1 hb hlb hcap
    by_cases hlt : n < d1
    · have hlt2 : (n : Int) < (d1 : Int) := by omega
      have hne := (last_tail HL1.out hlt).1
      have hla := (last_tail HL1.out hlt).2
      cases r1 with
      | nil => exact absurd rfl hne
      | cons d2 r2 =>
        have HA := Lib.hid hla
        have HLT := Lib.hid hlt
        have HGK := Lib.hid hgk
        have HR1 := Lib.hid hr1
        have HT1 := Lib.hid ht1
        clear hne hla hlt hgk ht1
        generalize hq : (d2 :: r2).length = q1 at *
        have HQ := Lib.hid hq
        clear hq
        go_wp2_with fail
        go_quiet (fail)
        go_wp2_with fail
        go_region
        all_goals
          go_wp2_with fail
          refine (add_any (s := ⟨s.at_, s.opn, d2 :: r2, ts1⟩) ⟨_, _, HC.out _⟩ 8 [] s.at_ ⟨#[]⟩ _ rfl rfl (by have := HT1.out; show ts1.length ≤ _; omega)).mono ?_
          rintro e w3 ⟨rfl, h3, hb3⟩
          go_wp2_with fail
          go_roundg r2.length
          case measure => have := HGK.out; have := HQ.out; simp only [List.length_cons] at this; omega
          case rel =>
            have h4 := HR1.out
            have h5 := HT1.out
            have h6 := HQ.out
            simp only [List.length_cons] at h6
            exact ⟨d2, r2, _, Nat.le_refl _, HA.out, by omega, by simp; omega, by rw [← HD.out, ded_go HLT.out], h3, ((HB.out.trans (below_drewN (Below.refl _ wr) _)).drew.setCell (p := ⟨g, 2, none⟩) (HC.out 0).lo _).trans hb3⟩
    · have hlt2 : ¬ (n : Int) < (d1 : Int) := by omega
      have hfin := HD.out
      rw [ded_stop hlt] at hfin
      have HF := Lib.hid hfin
      clear hfin HC
      by_cases hnd : n = d1
      · have hst : stl n s = .ok ⟨s.at_, s.opn, d1 :: r1, ts1⟩ := by
          unfold stl
          rw [if_neg HDD.out, ← HF.out]
          simp only [List.headD_cons]
          exact if_pos hnd
        have hER := HER.out
        rw [hst] at hER
        have HQ := Lib.hid hER
        have tn : (((n : Nat) : Int) != ((d1 : Nat) : Int)) = false := by simp [hnd]
        clear hst hER hnd hlt
        generalize r1.length = q1 at *
        go_wp2_with fail
        go_quiet (fail)
        go_wp2_with fail
        go_quiet (fail)
        go_wp2_with fail
        go_end0
        rw [← HQ.out]
        exact ⟨rfl, HX1.out.below (below_drewN (below_drewN (Below.refl _ wr) _) _), below_drewN (below_drewN HB.out _) _⟩
      · have hst : stl n s = .error 103 := by
          unfold stl
          rw [if_neg HDD.out, ← HF.out]
          simp only [List.headD_cons]
          exact if_neg hnd
        have hER := HER.out
        rw [hst] at hER
        have HQ := Lib.hid hER
        have tn : (((n : Nat) : Int) != ((d1 : Nat) : Int)) = true := by simp; omega
        clear hst hER hlt
        generalize r1.length = q1 at *
        go_wp2_with fail
        go_quiet (fail)
        go_wp2_with fail
        go_quiet (fail)
        go_wp2_with fail
        refine (fault_any (HX1.out.below (below_drewN (Below.refl _ wr) _)) 103 s.at_ _ _ rfl rfl).mono ?_
        rintro e w3 ⟨rfl, h3, hb3⟩
        go_wp2_with fail
        go_end0
        rw [← HQ.out]
        exact ⟨rfl, ⟨_, h3⟩, (below_drewN HB.out _).trans hb3⟩
theorem begin_any {B : Nat} {w : World} {g n : Nat} {sv : Value} {s : St} (hX : RfX B w g sv s 0 0) (hne : s.bs ≠ []) (hlast : s.bs.getLast? = some 0) (hr : s.bs.length ≤ 41) (hts : s.ts.length ≤ 9000000) :
    Calls Tryd.prog 19 #[.pointer (some ⟨g, 0, none⟩), .int .i64 (n : Int), .int .i64 (s.at_ : Int)] w fun e w' => e = .returned (.tuple #[]) ∧ FnR B w g sv s.at_ (stl n s) w' := by
  cases hs : s.bs with
  | nil => exact absurd hs hne
  | cons d r =>
    rw [hs] at hr
    simp only [List.length_cons] at hr
    by_cases hd : d < n
    · exact begin_deep hX hs hd (by omega) hts
    · exact begin_flat hX hs hd hlast (by omega) hts
end Lx
end Go.Proofs.YtkppnncpejohgaaDoor
