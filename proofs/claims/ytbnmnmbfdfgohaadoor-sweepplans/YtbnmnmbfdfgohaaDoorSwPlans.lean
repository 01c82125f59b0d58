/-
  The law SweepPlans.
-/
import Derived.Test.YtbnmnmbfdfgohaaDoorSwForce
import Derived.Test.YtbnmnmbfdfgohaaDoorSwMarks
namespace Go.Proofs.YtbnmnmbfdfgohaaDoor
open Go.RowKit Go.WideShapes

/-- What is still to come of a plan that has counted c. -/
structure Pr (l : List Int) (c : Nat) (P : List Int) : Prop where
  ri : P.Pairwise (· < ·)
  mem : ∀ x, x ∈ P ↔ x ∈ l ∧ (c : Int) < x
theorem pr_zero (l : List Int) : Pr l 0 (pls l) := ⟨(pls_facts l).1, fun x => by rw [(pls_facts l).2 x]; constructor <;> rintro ⟨a, b⟩ <;> exact ⟨a, by omega⟩⟩
theorem tick_any {w : World} {X : Nat → Prop} {b c : Nat} {l P : List Int} (h : Pl w X b c P) (hr : Pr l c P) (hc : c ≤ 1000) (hl : P.length ≤ 1000) : Calls Tryd.prog 21 #[.pointer (some ⟨b, 0, none⟩)] w fun e w' => e = .returned (.bool (decide (((c + 1 : Nat) : Int) ∈ l))) ∧ (∃ P', Pl w' X b (c + 1) P' ∧ Pr l (c + 1) P' ∧ P'.length ≤ 1000) ∧ Ex (fun k => k = b) w w' := by
  cases P with
  | nil =>
    have hno : ((c + 1 : Nat) : Int) ∉ l := fun hm => by
      have := (hr.mem _).2 ⟨hm, by omega⟩
      cases this
    rw [decide_eq_false hno]
    refine (tick_none h (by omega)).mono ?_
    rintro e w' ⟨rfl, h1, h2⟩
    refine ⟨rfl, ⟨[], h1, ⟨List.Pairwise.nil, fun x => ?_⟩, by simp⟩, h2⟩
    constructor
    · intro hx; cases hx
    · rintro ⟨a, b⟩
      exact (hr.mem x).2 ⟨a, by omega⟩
  | cons x Q =>
    have hx := (hr.mem x).1 (by simp)
    obtain ⟨hq1, hq2⟩ := List.pairwise_cons.1 hr.ri
    have hd : decide (((c + 1 : Nat) : Int) ∈ l) = decide (x = ((c + 1 : Nat) : Int)) := by
      by_cases e : x = ((c + 1 : Nat) : Int)
      · rw [decide_eq_true e, decide_eq_true (by rw [← e]; exact hx.1)]
      · rw [decide_eq_false e, decide_eq_false]
        intro hm
        have := (hr.mem _).2 ⟨hm, by omega⟩
        rcases List.mem_cons.1 this with e2 | e2
        · exact e e2.symm
        · have := hq1 _ e2; omega
    rw [hd]
    refine (tick_some h (by omega) (by simp at hl; omega)).mono ?_
    rintro e w' ⟨rfl, h1, h2⟩
    refine ⟨rfl, ⟨_, h1, ?_, ?_⟩, h2⟩
    · split
      · rename_i e
        refine ⟨hq2, fun y => ?_⟩
        constructor
        · intro hy
          exact ⟨((hr.mem y).1 (List.mem_cons_of_mem _ hy)).1, by have := hq1 y hy; omega⟩
        · rintro ⟨a, b⟩
          rcases List.mem_cons.1 ((hr.mem y).2 ⟨a, by omega⟩) with e2 | e2
          · omega
          · exact e2
      · rename_i e
        refine ⟨hr.ri, fun y => ?_⟩
        rw [hr.mem y]
        constructor
        · rintro ⟨a, b⟩
          refine ⟨a, ?_⟩
          apply Classical.byContradiction
          intro hn
          have e3 : y = ((c + 1 : Nat) : Int) := by omega
          have := (hr.mem y).2 ⟨a, b⟩
          rcases List.mem_cons.1 this with e2 | e2
          · exact e (by rw [← e2]; exact e3)
          · have := hq1 y e2; omega
        · rintro ⟨a, b⟩; exact ⟨a, by omega⟩
    · split <;> simp at hl ⊢ <;> omega
theorem pls_len (l : List Int) : (pls l).length ≤ l.length := by
  have h1 := Lib.compact_length_le ((l.filter fun x => decide (1 ≤ x)).mergeSort fun x y => decide (x ≤ y))
  rw [List.length_mergeSort] at h1
  have h2 := List.length_filter_le (fun x : Int => decide (1 ≤ x)) l
  unfold pls
  omega
set_option maxRecDepth 100000 in
set_option maxHeartbeats 4000000 in
theorem splans_walk (a0 : Option Addr) (a1 c0 : Nat) (l : List Int) (n : Int) (w : World) (h0 : Lz w w.heap.size a0 a1 c0 l) (hnn : a0 = none → c0 = 0) (hT : Tab w) :
    Calls Tryd.prog 6 #[.slice a0 a1 c0, .int .i64 n] w fun e w' => e = .returned (.bool true) ∧ Below w.heap.size w w' := by
  obtain ⟨w0, rfl⟩ : ∃ w0, w = w0 := ⟨_, rfl⟩
  have htl := hT.lt
  have HT := Lib.hid hT
  have H0 := Lib.hid h0
  have HL : Hid (a1 = l.length) := h0.1
  obtain ⟨-, -, -, lb, off, ha, hcell⟩ := h0
  have HA := Lib.hid ha
  have HC := Lib.hid hcell
  obtain ⟨i0, hi, hz0, hz1, hz2⟩ := info_parts Tryd.infoN
  clear ha hcell hT
  by_cases hbig : (200 : Int) < (a1 : Int)
  · have CA := awake12_any w HT.out
    go_enter Tryd.func6, Tryd.ntmps6
    go_wp2_with fail
    refine CA.mono ?_
    rintro e w1 ⟨rfl, hB⟩
    clear CA
    go_wp2
    go_ret
    exact ⟨rfl, hB⟩
  · have ha1 : a1 ≤ 200 := by omega
    have hll : l.length ≤ 200 := by have := HL.out; omega
    obtain ⟨w0, hw0⟩ : ∃ w0, w0 = w := ⟨_, rfl⟩
    subst hw0
    by_cases hn3 : (300 : Int) < n
    · go_enter Tryd.func6, Tryd.ntmps6

      have hcpB := copy_run H0.out hnn (by omega)
      obtain ⟨v1, w1, hrun, hcp⟩ := hcpB
      have hown : w1.ownsRow w0.heap.size 3 1 v1 l.length (l.map fun x : Int => Value.int .i64 x) := hcp.ow
      obtain ⟨va, vc, rfl⟩ := ownsS_shape hown
      have hs1 := hcp.be.size
      have HRUN := Lib.hid hrun
      have HB01 := Lib.hid hcp.be
      clear hrun hcp
      go_upto_region 7 with (at_builtin; refine wpListS_append_run rfl _ _ 23 23 rfl _ _ _ rfl rfl HRUN.out ?_)
      go_wp2_with (at_builtin; refine wpListS_append_own rfl _ _ 23 rfl w0.heap.size 3 i0 (.int .i64 0) 1 8 Tryd.underlying23 hi hz0 hz1 hz2 rfl (by decide) _ _ _ rfl (World.ownsRow.alloc hown _) ⟨w1.heap.size, 0, none⟩ 1 1 [.int .i64 77] rfl rfl (newR_one _ _ _) (fun u hu => by simp at hu; subst hu; rfl) (by unfold maxLen; omega) (by omega) (by simp; omega) ?_)
      intro v' w3 hown2 hgrow hat
      have hI3 := intsR_snoc hown2
      have hB3 : Below w0.heap.size w0 w3 := HB01.out.trans (belowR_grown (Below.refl _ w1) hs1 hown hgrow)
      obtain ⟨gx, cx, rfl, _⟩ := ownsS_some hown2 (by omega)
      obtain ⟨hlx, hcx, hcap, hgx0, hgx⟩ := snoc_lz hI3 H0.out.2.2.1
      rw [← HL.out] at hlx hcx hcap
      have CF := force_any hlx (Nat.le_refl _) (by omega)
      have t1 : (a1 : Int) ≤ (cx : Int) := by omega
      have t2 : (0 : Int) ≤ (a1 : Int) := by omega
      have HI3 := Lib.hid hI3
      have HLX := Lib.hid hlx
      have HCX := Lib.hid hcx
      have HB3 := Lib.hid hB3
      clear hown2 hgrow hat hI3 hown HB01 hlx hcx hB3
      generalize hn3 : l.length + 1 = n3 at *
      have hn3' : n3 = a1 + 1 := by rw [HL.out]; omega
      have HN3 := Lib.hid hn3'
      clear hn3 hn3'
      go_wp2_with fail
      refine CF.mono ?_
      clear CF
      rintro e w4 ⟨bp, rfl, hPl4, hB34⟩
      have hB4 : Below w0.heap.size w0 w4 := HB3.out.trans (hB34.mono HB3.out.size)
      have CS := same_eq (c1 := cx) (c2 := c0) ((HLX.out.rdl).below hB34) (((H0.out.below hB4).mono hB4.size).rdl) (by omega)
      have HPL4 := Lib.hid hPl4
      have HB34 := Lib.hid hB34
      have HB4 := Lib.hid hB4
      clear hPl4 hB34 hB4 HB3
      go_wp2_with fail
      refine CS.mono ?_
      clear CS
      rintro e w5 ⟨rfl, hB45⟩
      have hB35 := HB34.out.trans (hB45.mono HB34.out.size)
      have hB5 := HB4.out.trans (hB45.mono HB4.out.size)
      have c5 := (hB35.cell (p := ⟨gx, a1, none⟩) hgx).trans HCX.out
      have hPl5 := HPL4.out.keep (Y := fun _ => False) (ex_of hB45) (fun _ _ h => h)
      have hI5 := ownsS_same HI3.out (w' := w5) (fun k hk => by injection hk with hk; rw [← hk]; exact hB35.block gx hgx)
      have t3 : (a1 : Int) < (n3 : Int) := by have := HN3.out; omega
      have hXp : ∀ k, (w3.heap.size ≤ k ∧ k < w4.heap.size) → k < w5.heap.size ∧ k ≠ gx := fun k hk => ⟨by have := hB45.size; omega, by omega⟩
      have HXP := Lib.hid hXp
      have HPL5 := Lib.hid hPl5
      have HI5 := Lib.hid hI5
      have HB5 := Lib.hid hB5
      clear hB45 hB35 hB5 hPl5 hI5 HPL4 HB34 HB4 hXp
      have hn3s : n3 ≤ 1000 := by have := HN3.out; omega
      go_wp2_with fail
      go_loopw [7] (fun v7 wr => ∃ (j : Nat) (xs : List Value), j ≤ n3 ∧ v7 = .int .i64 (j : Int) ∧ wr.ownsRow w0.heap.size 3 1 (.slice (some ⟨gx, 0, none⟩) n3 cx) n3 xs ∧ Ex (fun k => k = gx) w5 wr) (fun v7 _ => n3 - (intOf v7).toNat)
      case atStart =>
        have hl3 : (l ++ [77]).length = n3 := by have := HN3.out; have := HL.out; simp; omega
        have h := HI5.out
        unfold IntsR at h
        rw [hl3] at h
        exact ⟨0, _, Nat.zero_le _, rfl, h, Ex.refl _ _⟩
      case round =>
        obtain ⟨j, xs, hj, rfl, hw, hE⟩ := hrel
        by_cases hjl : j < n3
        · have tj : (j : Int) < (n3 : Int) := by omega
          have tj0 : (0 : Int) ≤ (j : Int) := by omega
          have ej : IntKind.i64.wrap ((j : Int) + 1) = ((j + 1 : Nat) : Int) := by rw [i64_small (by omega) (by omega)]; omega
          have hxl : j < xs.length := by have := hw.1; omega
          have cj : ∃ v, wr.cell? ⟨gx, j, none⟩ = some v := ⟨xs[j], by rw [hw.cellAt j (by omega), List.getElem?_eq_getElem hxl]⟩
          obtain ⟨vv, cj⟩ := cj
          have zj : wr.frozen? ⟨gx, j, none⟩ = false := hw.frozenAt j
          have HS := Lib.hid (hw.stored j (.int .i64 3)).1
          have HE := Lib.hid hE
          clear hw hE hxl
          go_wp2_with fail
          go_roundw
          case rel => exact ⟨j + 1, _, by omega, rfl, HS.out, HE.out.setCell (p := ⟨gx, j, none⟩) (fun _ => rfl) _⟩
          case measure => simp [intOf]; omega
        · obtain rfl : j = n3 := by omega
          have tj : ((j : Int) < (j : Int)) = False := by simp
          have hB6 : Below w0.heap.size w0 wr := HB5.out.trans (hE.below (fun k hk => by omega) HB5.out.size)
          have hPl6 := HPL5.out.keep hE (fun k hk e => (HXP.out k hk).2 e)
          obtain ⟨w7, hw7⟩ : ∃ y, wr.alloc (.cells #[.int .i64 0, .slice none 0 0] 43) = y := ⟨_, rfl⟩
          have hb7 : Below wr.heap.size wr w7 := by rw [← hw7]; exact (Below.refl _ wr).alloc (Nat.le_refl _) _
          have hX7 : Blk w7 wr.heap.size 2 (fun j => #[Value.int .i64 0, .slice none 0 0].getD j .nilFunc) := by rw [← hw7]; exact Blk.new wr _ _
          have hs7 : wr.heap.size < w7.heap.size := by rw [← hw7]; simp
          have hPz : Pl w7 (fun k => k = wr.heap.size) wr.heap.size 0 [] := ⟨rfl, hX7.c 0 (by omega), hX7.z, none, 0, hX7.c 1 (by omega), by simp, 0, 0, fun h => absurd h (by simp), fun j h => absurd h (by simp)⟩
          have hPp := hPl6.keep (Y := fun _ => False) (ex_of hb7) (fun _ _ h => h)
          have hXz : ∀ k, (w3.heap.size ≤ k ∧ k < w4.heap.size) → k ≠ wr.heap.size := fun k hk => by have := (HXP.out k hk).1; have := hE.size; omega
          have HPZ := Lib.hid hPz
          have HPP := Lib.hid hPp
          have HXZ := Lib.hid hXz
          have hs7' := hb7.size
          have HB7 := Lib.hid (hB6.trans (hb7.mono hB6.size))
          have HW7 := Lib.hid hw7
          have hbz0 : w0.heap.size ≤ wr.heap.size := hB6.size
          have hw30 : w0.heap.size ≤ w3.heap.size := by omega
          clear hw hE hB6 hPl6 hw7 hb7 hX7 hs7 hPz hPp hXz HPL5 HI5
          go_wp2_with fail
          rw [HW7.out]
          obtain ⟨bz, hbz⟩ : ∃ bz, wr.heap.size = bz := ⟨_, rfl⟩
          rw [hbz] at HPZ HXZ hbz0 ⊢
          clear hbz HW7 HXP
          go_loopw [10] (fun v10 wq => ∃ (c : Nat) (P : List Int), (c : Int) ≤ max (300) 0 ∧ v10 = .int .i64 ((c + 1 : Nat) : Int) ∧ Pl wq (fun k => w3.heap.size ≤ k ∧ k < w4.heap.size) bp c P ∧ Pr l c P ∧ P.length ≤ 1000 ∧ Pl wq (fun k => k = bz) bz c [] ∧ Below w0.heap.size w0 wq) (fun v10 _ => 400 - (intOf v10).toNat)
          case atStart => exact ⟨0, pls l, by omega, rfl, HPP.out, pr_zero l, by have := pls_len l; have := HL.out; omega, HPZ.out, HB7.out⟩
          case round =>
            rename World => wq
            clear HPP HPZ HB7
            obtain ⟨c, P, hcm, rfl, hP, hPr, hPln, hZ, hBw⟩ := hrel
            have HP := Lib.hid hP
            have HPR := Lib.hid hPr
            have HZ := Lib.hid hZ
            have HBW := Lib.hid hBw
            clear hP hPr hZ hBw
            have hc300 : c ≤ 300 := by omega
            by_cases hgo : ((c + 1 : Nat) : Int) ≤ 300
            · have ec : IntKind.i64.wrap (((c + 1 : Nat) : Int) + 1) = ((c + 1 + 1 : Nat) : Int) := by rw [i64_small (by omega) (by omega)]; omega
              obtain ⟨I, hI⟩ : ∃ I : Nat, c + 1 = I := ⟨_, rfl⟩
              rw [hI] at hgo ec ⊢
              have HI := Lib.hid hI
              clear hI
              go_wp2_with fail
              go_loopw [11, 12] (fun v11 v12 wi => ∃ k : Nat, k ≤ a1 ∧ v12 = .int .i64 (k : Int) ∧ v11 = .bool (decide ((I : Int) ∈ l.take k)) ∧ wq = wi) (fun _ v12 _ => a1 - (intOf v12).toNat)
              case atStart => exact ⟨0, Nat.zero_le _, rfl, by simp, rfl⟩
              case round =>
                obtain ⟨k, hk, rfl, rfl, rfl⟩ := hrel
                by_cases hkl : k < a1
                · have tk : (k : Int) < (a1 : Int) := by omega
                  have tk0 : (0 : Int) ≤ (k : Int) := by omega
                  have ek : IntKind.i64.wrap ((k : Int) + 1) = ((k + 1 : Nat) : Int) := by rw [i64_small (by omega) (by omega)]; omega
                  obtain ⟨ha, hlb⟩ := HA.out (by omega)
                  subst ha
                  have ck := (HBW.out.cell (p := ⟨lb, off + k, none⟩) hlb).trans (HC.out k hkl)
                  have htk : l.take (k + 1) = l.take k ++ [l[k]?.getD 0] := by
                    rw [List.take_add_one, List.getElem?_eq_getElem (by have := HL.out; omega)]
                    simp
                  generalize l[k]?.getD 0 = x at *
                  have hd : decide ((I : Int) ∈ l.take (k + 1)) = (decide ((I : Int) ∈ l.take k) || (x == (I : Int))) := by
                    rw [htk]
                    simp only [List.mem_append, List.mem_singleton, Bool.decide_or]
                    congr 1
                    by_cases e : x = (I : Int)
                    · simp [e]
                    · have e2 : ¬ (I : Int) = x := fun h => e h.symm
                      simp [e, e2]
                  have HD := Lib.hid hd
                  clear htk hd
                  cases hb : decide ((I : Int) ∈ l.take k) with
                  | true =>
                    rw [hb] at HD
                    go_wp2_with fail
                    go_roundw
                    case rel => exact ⟨k + 1, by omega, rfl, by rw [HD.out]; rfl, by first | trivial | rfl⟩
                    case measure => simp [intOf]; omega
                  | false =>
                    rw [hb] at HD
                    go_wp2_with fail
                    go_roundw
                    case rel => exact ⟨k + 1, by omega, rfl, by rw [HD.out]; simp, by first | trivial | rfl⟩
                    case measure => simp [intOf]; omega
                · obtain rfl : k = a1 := by omega
                  have tk : ((k : Int) < (k : Int)) = False := by simp
                  have hall : l.take k = l := List.take_of_length_le (by have := HL.out; omega)
                  have CT := tick_any HP.out HPR.out (by omega) hPln
                  rw [HI.out] at CT
                  rw [hall]
                  clear hall
                  generalize decide ((I : Int) ∈ l) = bb at *
                  go_wp2_with fail
                  refine CT.mono ?_
                  clear CT
                  rintro e w8 ⟨rfl, ⟨P8, hP8, hR8, hl8⟩, hE8⟩
                  have hbpX := HP.out.xb
                  have hZ8 := HZ.out.keep hE8 (fun k hk e => HXZ.out bp hbpX (by rw [← e]; exact hk))
                  have CN := tick_nil w8
                  have CZ := tick_none hZ8 (by omega)
                  rw [HI.out] at CZ
                  have HP8 := Lib.hid hP8
                  have HR8 := Lib.hid hR8
                  have HB8 := Lib.hid (HBW.out.trans (hE8.below (fun k hk => by rw [hk]; exact Nat.le_trans hw30 hbpX.1) HBW.out.size))
                  clear hP8 hR8 hZ8 hE8
                  go_wp2_with fail
                  refine CN.mono ?_
                  clear CN
                  rintro e w9 ⟨rfl, rfl⟩
                  go_wp2_with fail
                  refine CZ.mono ?_
                  clear CZ
                  rintro e w10 ⟨rfl, hZ10, hE10⟩
                  have HP10 := Lib.hid (HP8.out.keep hE10 (fun k hk e => HXZ.out k hk e))
                  have HZ10 := Lib.hid hZ10
                  have HB10 := Lib.hid (HB8.out.trans (hE10.below (fun k hk => by rw [hk]; exact hbz0) HB8.out.size))
                  clear hZ10 hE10
                  go_wp2_with fail
                  go_roundw
                  case rel => exact ⟨I, P8, by omega, (by first | rfl | (rw [ec]) | go_num), HP10.out, HR8.out, hl8, HZ10.out, HB10.out⟩
                  case measure => have := HI.out; simp [intOf]; omega
            · have hcM : (c : Int) = max (300) 0 := by omega
              obtain ⟨I, hI⟩ : ∃ I : Nat, c + 1 = I := ⟨_, rfl⟩
              rw [hI] at hgo ⊢
              clear hI
              have tgo : ((I : Int) ≤ 300) = False := by simp only [hgo]
              have C1 := count_pl HP.out
              have C2 := count_nil wq
              have C3 := count_pl HZ.out
              have CA := awake12_any wq (HT.out.below HBW.out htl)
              have hC : (c : Int) = max 300 0 := hcM
              clear hcM
              generalize hcc : (c : Int) = C at *
              clear hcc hc300
              go_wp2_with fail
              refine C1.mono ?_
              clear C1 tgo hgo
              rintro e w8 ⟨rfl, hw8⟩
              subst hw8
              clear HP HZ HPR hPln HXZ HB5 HLX HCX HRUN HI3 HN3
              go_wp2_with fail
              refine C2.mono ?_
              clear C2
              rintro e w9 ⟨rfl, rfl⟩
              go_wp2_with fail
              refine C3.mono ?_
              clear C3
              rintro e w11 ⟨rfl, rfl⟩
              go_wp2_with fail
              refine CA.mono ?_
              clear CA
              rintro e w12 ⟨rfl, hB12⟩
              go_wp2
              go_ret
              exact ⟨rfl, HBW.out.trans (hB12.mono HBW.out.size)⟩
    · have hnle : n ≤ 300 := by omega
      go_enter Tryd.func6, Tryd.ntmps6

      have hcpB := copy_run H0.out hnn (by omega)
      obtain ⟨v1, w1, hrun, hcp⟩ := hcpB
      have hown : w1.ownsRow w0.heap.size 3 1 v1 l.length (l.map fun x : Int => Value.int .i64 x) := hcp.ow
      obtain ⟨va, vc, rfl⟩ := ownsS_shape hown
      have hs1 := hcp.be.size
      have HRUN := Lib.hid hrun
      have HB01 := Lib.hid hcp.be
      clear hrun hcp
      go_upto_region 7 with (at_builtin; refine wpListS_append_run rfl _ _ 23 23 rfl _ _ _ rfl rfl HRUN.out ?_)
      go_wp2_with (at_builtin; refine wpListS_append_own rfl _ _ 23 rfl w0.heap.size 3 i0 (.int .i64 0) 1 8 Tryd.underlying23 hi hz0 hz1 hz2 rfl (by decide) _ _ _ rfl (World.ownsRow.alloc hown _) ⟨w1.heap.size, 0, none⟩ 1 1 [.int .i64 77] rfl rfl (newR_one _ _ _) (fun u hu => by simp at hu; subst hu; rfl) (by unfold maxLen; omega) (by omega) (by simp; omega) ?_)
      intro v' w3 hown2 hgrow hat
      have hI3 := intsR_snoc hown2
      have hB3 : Below w0.heap.size w0 w3 := HB01.out.trans (belowR_grown (Below.refl _ w1) hs1 hown hgrow)
      obtain ⟨gx, cx, rfl, _⟩ := ownsS_some hown2 (by omega)
      obtain ⟨hlx, hcx, hcap, hgx0, hgx⟩ := snoc_lz hI3 H0.out.2.2.1
      rw [← HL.out] at hlx hcx hcap
      have CF := force_any hlx (Nat.le_refl _) (by omega)
      have t1 : (a1 : Int) ≤ (cx : Int) := by omega
      have t2 : (0 : Int) ≤ (a1 : Int) := by omega
      have HI3 := Lib.hid hI3
      have HLX := Lib.hid hlx
      have HCX := Lib.hid hcx
      have HB3 := Lib.hid hB3
      clear hown2 hgrow hat hI3 hown HB01 hlx hcx hB3
      generalize hn3 : l.length + 1 = n3 at *
      have hn3' : n3 = a1 + 1 := by rw [HL.out]; omega
      have HN3 := Lib.hid hn3'
      clear hn3 hn3'
      go_wp2_with fail
      refine CF.mono ?_
      clear CF
      rintro e w4 ⟨bp, rfl, hPl4, hB34⟩
      have hB4 : Below w0.heap.size w0 w4 := HB3.out.trans (hB34.mono HB3.out.size)
      have CS := same_eq (c1 := cx) (c2 := c0) ((HLX.out.rdl).below hB34) (((H0.out.below hB4).mono hB4.size).rdl) (by omega)
      have HPL4 := Lib.hid hPl4
      have HB34 := Lib.hid hB34
      have HB4 := Lib.hid hB4
      clear hPl4 hB34 hB4 HB3
      go_wp2_with fail
      refine CS.mono ?_
      clear CS
      rintro e w5 ⟨rfl, hB45⟩
      have hB35 := HB34.out.trans (hB45.mono HB34.out.size)
      have hB5 := HB4.out.trans (hB45.mono HB4.out.size)
      have c5 := (hB35.cell (p := ⟨gx, a1, none⟩) hgx).trans HCX.out
      have hPl5 := HPL4.out.keep (Y := fun _ => False) (ex_of hB45) (fun _ _ h => h)
      have hI5 := ownsS_same HI3.out (w' := w5) (fun k hk => by injection hk with hk; rw [← hk]; exact hB35.block gx hgx)
      have t3 : (a1 : Int) < (n3 : Int) := by have := HN3.out; omega
      have hXp : ∀ k, (w3.heap.size ≤ k ∧ k < w4.heap.size) → k < w5.heap.size ∧ k ≠ gx := fun k hk => ⟨by have := hB45.size; omega, by omega⟩
      have HXP := Lib.hid hXp
      have HPL5 := Lib.hid hPl5
      have HI5 := Lib.hid hI5
      have HB5 := Lib.hid hB5
      clear hB45 hB35 hB5 hPl5 hI5 HPL4 HB34 HB4 hXp
      have hn3s : n3 ≤ 1000 := by have := HN3.out; omega
      go_wp2_with fail
      go_loopw [7] (fun v7 wr => ∃ (j : Nat) (xs : List Value), j ≤ n3 ∧ v7 = .int .i64 (j : Int) ∧ wr.ownsRow w0.heap.size 3 1 (.slice (some ⟨gx, 0, none⟩) n3 cx) n3 xs ∧ Ex (fun k => k = gx) w5 wr) (fun v7 _ => n3 - (intOf v7).toNat)
      case atStart =>
        have hl3 : (l ++ [77]).length = n3 := by have := HN3.out; have := HL.out; simp; omega
        have h := HI5.out
        unfold IntsR at h
        rw [hl3] at h
        exact ⟨0, _, Nat.zero_le _, rfl, h, Ex.refl _ _⟩
      case round =>
        obtain ⟨j, xs, hj, rfl, hw, hE⟩ := hrel
        by_cases hjl : j < n3
        · have tj : (j : Int) < (n3 : Int) := by omega
          have tj0 : (0 : Int) ≤ (j : Int) := by omega
          have ej : IntKind.i64.wrap ((j : Int) + 1) = ((j + 1 : Nat) : Int) := by rw [i64_small (by omega) (by omega)]; omega
          have hxl : j < xs.length := by have := hw.1; omega
          have cj : ∃ v, wr.cell? ⟨gx, j, none⟩ = some v := ⟨xs[j], by rw [hw.cellAt j (by omega), List.getElem?_eq_getElem hxl]⟩
          obtain ⟨vv, cj⟩ := cj
          have zj : wr.frozen? ⟨gx, j, none⟩ = false := hw.frozenAt j
          have HS := Lib.hid (hw.stored j (.int .i64 3)).1
          have HE := Lib.hid hE
          clear hw hE hxl
          go_wp2_with fail
          go_roundw
          case rel => exact ⟨j + 1, _, by omega, rfl, HS.out, HE.out.setCell (p := ⟨gx, j, none⟩) (fun _ => rfl) _⟩
          case measure => simp [intOf]; omega
        · obtain rfl : j = n3 := by omega
          have tj : ((j : Int) < (j : Int)) = False := by simp
          have hB6 : Below w0.heap.size w0 wr := HB5.out.trans (hE.below (fun k hk => by omega) HB5.out.size)
          have hPl6 := HPL5.out.keep hE (fun k hk e => (HXP.out k hk).2 e)
          obtain ⟨w7, hw7⟩ : ∃ y, wr.alloc (.cells #[.int .i64 0, .slice none 0 0] 43) = y := ⟨_, rfl⟩
          have hb7 : Below wr.heap.size wr w7 := by rw [← hw7]; exact (Below.refl _ wr).alloc (Nat.le_refl _) _
          have hX7 : Blk w7 wr.heap.size 2 (fun j => #[Value.int .i64 0, .slice none 0 0].getD j .nilFunc) := by rw [← hw7]; exact Blk.new wr _ _
          have hs7 : wr.heap.size < w7.heap.size := by rw [← hw7]; simp
          have hPz : Pl w7 (fun k => k = wr.heap.size) wr.heap.size 0 [] := ⟨rfl, hX7.c 0 (by omega), hX7.z, none, 0, hX7.c 1 (by omega), by simp, 0, 0, fun h => absurd h (by simp), fun j h => absurd h (by simp)⟩
          have hPp := hPl6.keep (Y := fun _ => False) (ex_of hb7) (fun _ _ h => h)
          have hXz : ∀ k, (w3.heap.size ≤ k ∧ k < w4.heap.size) → k ≠ wr.heap.size := fun k hk => by have := (HXP.out k hk).1; have := hE.size; omega
          have HPZ := Lib.hid hPz
          have HPP := Lib.hid hPp
          have HXZ := Lib.hid hXz
          have hs7' := hb7.size
          have HB7 := Lib.hid (hB6.trans (hb7.mono hB6.size))
          have HW7 := Lib.hid hw7
          have hbz0 : w0.heap.size ≤ wr.heap.size := hB6.size
          have hw30 : w0.heap.size ≤ w3.heap.size := by omega
          clear hw hE hB6 hPl6 hw7 hb7 hX7 hs7 hPz hPp hXz HPL5 HI5
          go_wp2_with fail
          rw [HW7.out]
          obtain ⟨bz, hbz⟩ : ∃ bz, wr.heap.size = bz := ⟨_, rfl⟩
          rw [hbz] at HPZ HXZ hbz0 ⊢
          clear hbz HW7 HXP
          go_loopw [10] (fun v10 wq => ∃ (c : Nat) (P : List Int), (c : Int) ≤ max (n) 0 ∧ v10 = .int .i64 ((c + 1 : Nat) : Int) ∧ Pl wq (fun k => w3.heap.size ≤ k ∧ k < w4.heap.size) bp c P ∧ Pr l c P ∧ P.length ≤ 1000 ∧ Pl wq (fun k => k = bz) bz c [] ∧ Below w0.heap.size w0 wq) (fun v10 _ => 400 - (intOf v10).toNat)
          case atStart => exact ⟨0, pls l, by omega, rfl, HPP.out, pr_zero l, by have := pls_len l; have := HL.out; omega, HPZ.out, HB7.out⟩
          case round =>
            rename World => wq
            clear HPP HPZ HB7
            obtain ⟨c, P, hcm, rfl, hP, hPr, hPln, hZ, hBw⟩ := hrel
            have HP := Lib.hid hP
            have HPR := Lib.hid hPr
            have HZ := Lib.hid hZ
            have HBW := Lib.hid hBw
            clear hP hPr hZ hBw
            have hc300 : c ≤ 300 := by omega
            by_cases hgo : ((c + 1 : Nat) : Int) ≤ n
            · have ec : IntKind.i64.wrap (((c + 1 : Nat) : Int) + 1) = ((c + 1 + 1 : Nat) : Int) := by rw [i64_small (by omega) (by omega)]; omega
              obtain ⟨I, hI⟩ : ∃ I : Nat, c + 1 = I := ⟨_, rfl⟩
              rw [hI] at hgo ec ⊢
              have HI := Lib.hid hI
              clear hI
              go_wp2_with fail
              go_loopw [11, 12] (fun v11 v12 wi => ∃ k : Nat, k ≤ a1 ∧ v12 = .int .i64 (k : Int) ∧ v11 = .bool (decide ((I : Int) ∈ l.take k)) ∧ wq = wi) (fun _ v12 _ => a1 - (intOf v12).toNat)
              case atStart => exact ⟨0, Nat.zero_le _, rfl, by simp, rfl⟩
              case round =>
                obtain ⟨k, hk, rfl, rfl, rfl⟩ := hrel
                by_cases hkl : k < a1
                · have tk : (k : Int) < (a1 : Int) := by omega
                  have tk0 : (0 : Int) ≤ (k : Int) := by omega
                  have ek : IntKind.i64.wrap ((k : Int) + 1) = ((k + 1 : Nat) : Int) := by rw [i64_small (by omega) (by omega)]; omega
                  obtain ⟨ha, hlb⟩ := HA.out (by omega)
                  subst ha
                  have ck := (HBW.out.cell (p := ⟨lb, off + k, none⟩) hlb).trans (HC.out k hkl)
                  have htk : l.take (k + 1) = l.take k ++ [l[k]?.getD 0] := by
                    rw [List.take_add_one, List.getElem?_eq_getElem (by have := HL.out; omega)]
                    simp
                  generalize l[k]?.getD 0 = x at *
                  have hd : decide ((I : Int) ∈ l.take (k + 1)) = (decide ((I : Int) ∈ l.take k) || (x == (I : Int))) := by
                    rw [htk]
                    simp only [List.mem_append, List.mem_singleton, Bool.decide_or]
                    congr 1
                    by_cases e : x = (I : Int)
                    · simp [e]
                    · have e2 : ¬ (I : Int) = x := fun h => e h.symm
                      simp [e, e2]
                  have HD := Lib.hid hd
                  clear htk hd
                  cases hb : decide ((I : Int) ∈ l.take k) with
                  | true =>
                    rw [hb] at HD
                    go_wp2_with fail
                    go_roundw
                    case rel => exact ⟨k + 1, by omega, rfl, by rw [HD.out]; rfl, by first | trivial | rfl⟩
                    case measure => simp [intOf]; omega
                  | false =>
                    rw [hb] at HD
                    go_wp2_with fail
                    go_roundw
                    case rel => exact ⟨k + 1, by omega, rfl, by rw [HD.out]; simp, by first | trivial | rfl⟩
                    case measure => simp [intOf]; omega
                · obtain rfl : k = a1 := by omega
                  have tk : ((k : Int) < (k : Int)) = False := by simp
                  have hall : l.take k = l := List.take_of_length_le (by have := HL.out; omega)
                  have CT := tick_any HP.out HPR.out (by omega) hPln
                  rw [HI.out] at CT
                  rw [hall]
                  clear hall
                  generalize decide ((I : Int) ∈ l) = bb at *
                  go_wp2_with fail
                  refine CT.mono ?_
                  clear CT
                  rintro e w8 ⟨rfl, ⟨P8, hP8, hR8, hl8⟩, hE8⟩
                  have hbpX := HP.out.xb
                  have hZ8 := HZ.out.keep hE8 (fun k hk e => HXZ.out bp hbpX (by rw [← e]; exact hk))
                  have CN := tick_nil w8
                  have CZ := tick_none hZ8 (by omega)
                  rw [HI.out] at CZ
                  have HP8 := Lib.hid hP8
                  have HR8 := Lib.hid hR8
                  have HB8 := Lib.hid (HBW.out.trans (hE8.below (fun k hk => by rw [hk]; exact Nat.le_trans hw30 hbpX.1) HBW.out.size))
                  clear hP8 hR8 hZ8 hE8
                  go_wp2_with fail
                  refine CN.mono ?_
                  clear CN
                  rintro e w9 ⟨rfl, rfl⟩
                  go_wp2_with fail
                  refine CZ.mono ?_
                  clear CZ
                  rintro e w10 ⟨rfl, hZ10, hE10⟩
                  have HP10 := Lib.hid (HP8.out.keep hE10 (fun k hk e => HXZ.out k hk e))
                  have HZ10 := Lib.hid hZ10
                  have HB10 := Lib.hid (HB8.out.trans (hE10.below (fun k hk => by rw [hk]; exact hbz0) HB8.out.size))
                  clear hZ10 hE10
                  go_wp2_with fail
                  go_roundw
                  case rel => exact ⟨I, P8, by omega, (by first | rfl | (rw [ec]) | go_num), HP10.out, HR8.out, hl8, HZ10.out, HB10.out⟩
                  case measure => have := HI.out; simp [intOf]; omega
            · have hcM : (c : Int) = max (n) 0 := by omega
              obtain ⟨I, hI⟩ : ∃ I : Nat, c + 1 = I := ⟨_, rfl⟩
              rw [hI] at hgo ⊢
              clear hI
              have tgo : ((I : Int) ≤ n) = False := by simp only [hgo]
              have C1 := count_pl HP.out
              have C2 := count_nil wq
              have C3 := count_pl HZ.out
              have CA := awake12_any wq (HT.out.below HBW.out htl)
              have hif : (if n < 0 then (0 : Int) else n) = (c : Int) := by rw [hcM]; split <;> omega
              clear hcM
              generalize hcc : (c : Int) = C at *
              clear hcc hc300
              go_wp2_with fail
              refine C1.mono ?_
              clear C1 tgo hgo
              rintro e w8 ⟨rfl, hw8⟩
              subst hw8
              clear HP HZ HPR hPln HXZ HB5 HLX HCX HRUN HI3 HN3
              go_wp2_with fail
              refine C2.mono ?_
              clear C2
              rintro e w9 ⟨rfl, rfl⟩
              go_wp2_with fail
              refine C3.mono ?_
              clear C3
              rintro e w11 ⟨rfl, rfl⟩
              go_wp2_with fail
              refine CA.mono ?_
              clear CA
              rintro e w12 ⟨rfl, hB12⟩
              go_wp2
              go_ret
              exact ⟨rfl, HBW.out.trans (hB12.mono HBW.out.size)⟩
end Go.Proofs.YtbnmnmbfdfgohaaDoor
