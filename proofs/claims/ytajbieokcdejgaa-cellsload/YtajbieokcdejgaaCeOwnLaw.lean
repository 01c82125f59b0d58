/-
  CellsOwn, walked.
-/
import Derived.Test.YtajbieokcdejgaaCePlay
namespace Go.Proofs.Ytajbieokcdejgaa
open Go.RowKit Go.WideShapes

/-- The other table, the list of what was, the iterator's row: all from block N on. -/
structure Oth (W : World) (N g2 r2 h2 L S qw r3 h3 cap3 : Nat) : Prop where
  d : Cl W g2 r2 h2 L S (fun _ => -1)
  q : ∀ j, j < S → W.cell? ⟨qw, j, none⟩ = some (.int .i64 (-1))
  i : Rw W r3 h3 (kd L) (wd L) S cap3 (fun _ => -1)
  ge : N ≤ g2 ∧ N ≤ r2 ∧ N ≤ h2 ∧ N ≤ qw ∧ N ≤ r3 ∧ N ≤ h3
theorem Oth.same {W W' : World} {N g2 r2 h2 L S qw r3 h3 cap3 : Nat} (x : Oth W N g2 r2 h2 L S qw r3 h3 cap3) (e : ∀ k, N ≤ k → k < W.heap.size → W'.heap[k]? = W.heap[k]?) : Oth W' N g2 r2 h2 L S qw r3 h3 cap3 := by
  obtain ⟨e1, e2, e3, e4, e5, e6⟩ := x.ge
  have hS := x.d.sz.pos
  have l1 := x.d.lt
  have l2 := lt_of_cell (x.q 0 (by omega))
  have l3 := x.i.lt (by omega)
  exact ⟨x.d.same (e _ e1 l1.1) (e _ e2 l1.2.1) (e _ e3 l1.2.2), fun j hj => (World.cell?_of_block (a := ⟨qw, j, none⟩) (e _ e4 l2)).trans (x.q j hj), x.i.same (e _ e5 l3.1) (e _ e6 l3.2), x.ge⟩
theorem Oth.but {W W' : World} {N g2 r2 h2 L S qw r3 h3 cap3 h : Nat} (x : Oth W N g2 r2 h2 L S qw r3 h3 cap3) (hb : But h W W') (hh : h < N) : Oth W' N g2 r2 h2 L S qw r3 h3 cap3 :=
  x.same fun k h1 h2 => hb.block k h2 (by omega)
theorem Oth.below {W W' : World} {N g2 r2 h2 L S qw r3 h3 cap3 : Nat} (x : Oth W N g2 r2 h2 L S qw r3 h3 cap3) (hb : Below W.heap.size W W') : Oth W' N g2 r2 h2 L S qw r3 h3 cap3 :=
  x.same fun k _ h2 => hb.block k h2
/-- Bytes that may be written over. -/
structure Wrt (W : World) (bb m : Nat) : Prop where
  c : ∀ j, j < m → ∃ x, W.cell? ⟨bb, j, none⟩ = some (.int .u8 x)
  z : ∀ j, W.frozen? ⟨bb, j, none⟩ = false
theorem Wrt.put {W : World} {bb m : Nat} (x : Wrt W bb m) (i : Nat) (v : Int) : Wrt (W.setCell ⟨bb, i, none⟩ (.int .u8 v)) bb m := by
  refine ⟨fun j hj => ?_, fun j => by rw [World.frozen?_setCell]; exact x.z j⟩
  obtain ⟨y, hy⟩ := x.c j hj
  by_cases e : j = i
  · subst e
    exact ⟨v, World.cell?_setCell_same' _ _ _ (by rw [hy]; rfl)⟩
  · exact ⟨y, by rw [World.cell?_setCell_other _ _ _ _ (by intro he; injection he with h1 h2; exact e h2.symm)]; exact hy⟩
theorem Byt.wrt {B : Nat} {w : World} {v : Value} {m : Nat} {g : Nat → Int} (h : Byt B w v m g) (hm : 0 < m) : ∃ cap b, v = .slice (some ⟨b, 0, none⟩) m cap ∧ m ≤ cap ∧ b < w.heap.size ∧ B ≤ b ∧ Wrt w b m := by
  obtain ⟨a, cap, b, e, hc, hp, hs, hz⟩ := h.open
  obtain ⟨rfl, h1, h2⟩ := hp hm
  exact ⟨cap, b, e, hc, h1, h2, fun j hj => ⟨_, by have := hs j hj; rwa [Nat.zero_add] at this⟩, fun j => hz j hm⟩
theorem own_wrt {B : Nat} {w : World} {v : Value} {n : Nat} {xs : List Value} (h : w.ownsRow B 5 1 v n xs) (hx : ∀ u ∈ xs, ∃ x, u = .int .u8 x) (hn : 0 < n) : ∃ cap b, v = .slice (some ⟨b, 0, none⟩) n cap ∧ n ≤ cap ∧ b < w.heap.size ∧ B ≤ b ∧ Wrt w b n := by
  have hl := h.1
  rcases h.2 with ⟨_, h0⟩ | ⟨g, cap, cur, rfl, h1, h2, h3, _⟩
  · omega
  · refine ⟨cap, g, rfl, h3, (Array.getElem?_eq_some_iff.1 h2).1, h1, fun j hj => ?_, fun j => h.frozenAt j⟩
    have hj' : j < xs.length := by omega
    obtain ⟨x, e⟩ := hx (xs[j]'hj') (List.getElem_mem _)
    exact ⟨x, by rw [h.cellAt j (by omega), List.getElem?_eq_getElem hj', e]⟩
theorem bl_ints (m : Nat) (g : Nat → Int) (y : Int) : ∀ u ∈ bl m g ++ [Value.int .u8 y], ∃ x, u = .int .u8 x := by
  intro u hu
  simp [bl] at hu
  rcases hu with ⟨j, _, rfl⟩ | rfl
  · exact ⟨_, rfl⟩
  · exact ⟨_, rfl⟩
theorem nl_succ (k : IntKind) (n : Nat) (f : Nat → Int) : nl k (n + 1) f = nl k n f ++ [Value.int k (f n)] := by simp [nl, List.range_succ]
set_option maxRecDepth 100000 in
set_option maxHeartbeats 8000000 in
theorem ownLaw_near {L S : Nat} (hS : Sz L S) (hL : L ≤ 10) (a : Option Addr) (n cap b off : Nat) (K M : Nat → Int) (w : World) (hs : Ss w a n cap b off K M) (hn : n ≤ 300) :
    Calls Try.prog 7 #[.int .i64 (L : Int), .slice a n cap] w fun e w' => e = .returned (.bool true) ∧ Below w.heap.size w w' := by
  obtain ⟨i0, hi, hz0, hz1, hz2⟩ := info_parts Try.infoInt
  have hfn : ∀ wx fn f1 c, (binOp .neq 40 (.func fn f1 c) .nilFunc).run Try.prog wx = .ok (.bool true) wx := fun _ _ _ _ => by kernel_rfl
  have i1 : ¬ (300 : Int) < (n : Int) := by omega
  have i2 : ¬ 10 < (L : Int) := by omega
  have hge := hS.ge
  have i3 : ¬ (L : Int) < 3 := by omega
  have C1 := new_any hS w
  have HSZ := Lib.hid hS
  have HSS := Lib.hid hs
  have hp := hS.pos
  have hmost := hS.most
  have hmn := many_le hS
  have hnc := hs.le
  clear hS hs hL
  go_enter Try.func7, Try.ntmps7
  go_wp2_with fail
  refine C1.mono ?_
  rintro e w1 ⟨g, r, h, rfl, hg, hr, hh, hC, hb1⟩
  clear C1
  have C2 := new_any HSZ.out w1
  go_wp2_with fail
  refine C2.mono ?_
  rintro e w2 ⟨g2, r2, h2, rfl, hg2, hr2, hh2, hD, hb2⟩
  clear C2
  have lC := hC.lt
  have hC2 := hC.below hb2
  have HB2 := Lib.hid (hb1.trans (hb2.mono hb1.size))
  have hsz1 := hb1.size
  have hsz2 := hb2.size
  clear hb1 hb2 hC
  go_wp2_with fail
  go_loopw [9, 10] (fun v iv wr => ∃ k : Nat, k ≤ S ∧ iv = .int .i64 (k : Int) ∧ wr.ownsRow w2.heap.size 3 1 v k (nl .i64 k (fun _ => -1)) ∧ Below w2.heap.size w2 wr) (fun _ iv _ => S - (intOf iv).toNat)
  case atStart => exact ⟨0, Nat.zero_le _, rfl, ⟨rfl, Or.inl ⟨rfl, rfl⟩⟩, Below.refl _ _⟩
  case round =>
    obtain ⟨k, hk, rfl, hown, hB⟩ := hrel
    have C3 := sizeM_any (hC2.below hB)
    by_cases hlt : k < S
    · have t1 : (k : Int) < (S : Int) := by omega
      have hsz := hB.size
      have FIN : Hid (∀ (v' : Value) (w5 : World), w5.ownsRow w2.heap.size 3 1 v' (k + 1) (nl .i64 k (fun _ => -1) ++ [.int .i64 (-1)]) → w5.ownsRow w2.heap.size 3 1 v' (k + 1) (nl .i64 (k + 1) (fun _ => -1))) := fun v' w5 h5 => by rw [nl_succ]; exact h5
      have HRL : Hid ((nl .i64 k (fun _ => -1)).length = k) := nl_len _ _ _
      generalize nl .i64 k (fun _ => -1) = R at hown FIN HRL
      go_wp2_with fail
      refine C3.mono ?_
      rintro e w3 ⟨rfl, rfl⟩
      clear C3
      go_wp2_with (at_builtin; refine wpList_append_own _ rfl _ _ 28 rfl w2.heap.size 3 i0 (.int .i64 0) 1 8 Try.underlying28 hi hz0 hz1 hz2 rfl (by decide) _ _ _ rfl (World.ownsRow.alloc hown _) ⟨w3.heap.size, 0, none⟩ 1 1 [.int .i64 (-1)] rfl rfl (new_one _ _ _) (by simp [Value.oneCell']) (by unfold maxLen; omega) (by omega) (by simp; omega) ?_; intro v' w5 hown2 hgrow _; have hI2 := Lib.hid (FIN.out v' w5 hown2); have hgrow' : (w3.alloc (.cells #[.int .i64 (-1)] 3)).grownBy w5 u9.ownBlock := hgrow; have hb5 := below_grown hB (Nat.le_refl _) hown hgrow'; clear hgrow hgrow' hown2)
      go_roundw
      case rel => exact ⟨k + 1, by omega, by go_num, hI2.out, hb5⟩
      case measure => simp [intOf]; omega
    · have t1 : ¬ (k : Int) < (S : Int) := by omega
      obtain rfl : k = S := by omega
      go_wp2_with fail
      refine C3.mono ?_
      rintro e w3 ⟨rfl, rfl⟩
      clear C3
      rcases hown.2 with ⟨_, h0⟩ | ⟨qw, capw, cur, ev, hqw, hhq, hcw, hrest⟩
      · exact absurd h0 (by omega)
      subst ev
      have HQ : Hid (∀ j, j < k → w3.cell? ⟨qw, j, none⟩ = some (.int .i64 (-1))) := fun j hj => by rw [hown.cellAt j (by omega), nl_get _ _ _ _ hj]
      have hC3 := hC2.below hB
      have hD3 := hD.below hB
      have HB3 := Lib.hid (HB2.out.trans (hB.mono HB2.out.size))
      have CA := allM_any hC3
      have lq := (Array.getElem?_eq_some_iff.1 hhq).1
      have hsz3 := hB.size
      clear hown hC2 hD hB hrest hhq cur
      go_wp2_with fail
      refine CA.mono ?_
      rintro e w4 ⟨r3, h3, cap3, rfl, hr3, hh3, hRw, hb4⟩
      clear CA
      have hO4 : Oth w4 w1.heap.size g2 r2 h2 L k qw r3 h3 cap3 := ⟨hD3.below hb4, fun j hj => (hb4.cell (p := ⟨qw, j, none⟩) lq).trans (HQ.out j hj), hRw, by omega⟩
      have hC4 := hC3.below hb4
      have HB4 := Lib.hid (HB3.out.trans (hb4.mono HB3.out.size))
      obtain ⟨I, hI⟩ : ∃ I, itv L r3 = .func (.method "lexicon/cells.each") I #[] := ⟨_, rfl⟩
      rw [hI]
      have HI := Lib.hid hI
      have CB := bytesM_any hC4
      clear hC3 hD3 HB3 hb4 hRw hI HQ HB2
      go_wp2_with fail
      refine CB.mono ?_
      rintro e w5 ⟨v5, rfl, hI5, hb5⟩
      clear CB
      have hm0 : 0 < k * wd L := Nat.mul_pos (by omega) (by rcases wd_cases L with e | e | e <;> omega)
      obtain ⟨cap5, bb, ev, hc5, lb5, hge5, hW5⟩ := hI5.wrt hm0
      subst ev
      clear hI5
      have HBT : Hid (∀ f, ∃ t : Nat → Int, bt (wd L) f = t) := fun f => ⟨_, rfl⟩
      generalize hmd : k * wd L = m at *
      have HMD := Lib.hid hmd
      clear hmd
      go_wp2_with fail
      go_loopw [13] (fun iv wr => ∃ j : Nat, j ≤ m ∧ iv = .int .i64 (j : Int) ∧ Wrt wr bb m ∧ Below w4.heap.size w4 wr) (fun iv _ => m - (intOf iv).toNat)
      case atStart => exact ⟨0, Nat.zero_le _, rfl, hW5, hb5⟩
      case round =>
        clear hW5 hb5
        obtain ⟨j, hj, rfl, hW, hB⟩ := hrel
        by_cases hlt : j < m
        · have t2 : (j : Int) < (m : Int) := by omega
          obtain ⟨x, hx⟩ := hW.c j hlt
          have hx' : wr.cell? ⟨bb, j, none⟩ = some (.int .u8 x) := hx
          have hz := hW.z j
          have HP := Lib.hid (hW.put j 0)
          have HPB := Lib.hid (hB.setCell (p := ⟨bb, j, none⟩) hge5 (.int .u8 0))
          clear hW hB hx
          go_wp2_with fail
          go_roundw
          case rel => exact ⟨j + 1, by omega, by go_num, HP.out, HPB.out⟩
          case measure => simp [intOf]; omega
        · have t2 : ¬ (j : Int) < (m : Int) := by omega
          have hC5 := hC4.below hB
          have hO5 := hO4.below hB
          have hB5 := HB4.out.trans (hB.mono HB4.out.size)
          clear hC4 hO4 hB hW HB4
          go_wp2_with fail
          go_loopw [14] (fun iv wr => ∃ (j : Nat) (f : Nat → Int), j ≤ n ∧ iv = .int .i64 (j : Int) ∧ Cl wr g r h L k f ∧ Oth wr w1.heap.size g2 r2 h2 L k qw r3 h3 cap3 ∧ Below w.heap.size w wr) (fun iv _ => n - (intOf iv).toNat)
          case atStart => exact ⟨0, _, Nat.zero_le _, rfl, hC5, hO5, hB5⟩
          case round =>
            clear hC5 hO5 hB5
            obtain ⟨p, f, hpn, rfl, hC, hO, hB⟩ := hrel
            by_cases hlp : p < n
            · have t3 : (p : Int) < (n : Int) := by omega
              obtain ⟨ea, lb⟩ := HSS.out.pl (by omega)
              have d0 := (hB.cell (p := ⟨b, off + p * 2, none⟩) lb).trans (HSS.out.c0 p hlp)
              have d1 := (hB.cell (p := ⟨b, off + p * 2 + 1, none⟩) lb).trans (HSS.out.c1 p hlp)
              subst ea
              generalize K p = i at d0
              generalize M p = v at d1
              have lbr : b < wr.heap.size := lt_of_cell d0
              have CS := setM_any hC.drew i v
              clear hC
              go_wp2_with fail
              go_region_held3 (fun V => V.cell? ⟨b, off + p * 2, none⟩ = some (.int .i64 i) ∧ V.cell? ⟨b, off + p * 2 + 1, none⟩ = some (.int .i64 v))
                (first | exact ⟨d0, d1⟩ | exact ⟨d2, d3⟩ | fail)
                (first | (go_at_call 21; refine CS.mono ?_; rintro e w6 ⟨rfl, hC6, hb6⟩; have d2 := (hb6.cell (p := ⟨b, off + p * 2, none⟩) lbr (by show b ≠ h; omega)).trans d0; have d3 := (hb6.cell (p := ⟨b, off + p * 2 + 1, none⟩) lbr (by show b ≠ h; omega)).trans d1) | fail)
              have HO6 := Lib.hid ((hO.below (Below.refl _ wr).drew).but hb6 (by omega))
              have HB6 := Lib.hid (hB.drew.trans (hb6.below hh hB.drew.size))
              have HC6 := Lib.hid hC6
              clear CS hC6 hb6 d0 d1 d2 d3 hO hB
              go_wp2_with fail
              go_roundw
              case rel => exact ⟨p + 1, _, by omega, by go_num, HC6.out, HO6.out, HB6.out⟩
              case measure => simp [intOf]; omega
            · have t3 : ¬ (p : Int) < (n : Int) := by omega
              have CX := bytesM_any hC
              rw [HMD.out] at CX
              go_wp2_with fail
              refine CX.mono ?_
              rintro e w7 ⟨v7, rfl, hI7, hb7⟩
              clear CX
              obtain ⟨ax, cx, ev, hSx⟩ := hI7.sl
              subst ev
              have hC7 := hC.below hb7
              have hO7 := hO.below hb7
              have HB7 := Lib.hid (hB.trans (hb7.mono hB.size))
              have CY := bytesM_any hC7
              rw [HMD.out] at CY
              generalize hgb : bt (wd L) f = gb at *
              have HGB := Lib.hid hgb
              clear hgb
              clear hI7 hb7 hC hO hB
              go_wp2_with fail
              refine CY.mono ?_
              rintro e w8 ⟨v8, rfl, hI8, hb8⟩
              clear CY
              have hown8 : w8.ownsRow w7.heap.size 5 1 v8 m (bl m gb) := hI8
              have HOW := Lib.hid (fun (v' : Value) (w9 : World) (h5 : w9.ownsRow w7.heap.size 5 1 v' (m + 1) (bl m gb ++ [.int .u8 5])) => own_wrt h5 (bl_ints m gb 5) (by omega))
              obtain ⟨j0, hj0, jz0, jz1, jz2⟩ := info_parts Try.infoByte
              have hsz8 := hb8.size
              have HBL : Hid ((bl m gb).length = m) := bl_len _ _
              clear hI8
              generalize bl m gb = R at hown8 HOW HBL
              go_wp2_with (at_builtin; refine wpList_append_own _ rfl _ _ 36 rfl w7.heap.size 5 j0 (.int .u8 0) 1 1 Try.underlying36 hj0 jz0 jz1 jz2 rfl (by decide) _ _ _ rfl (World.ownsRow.alloc hown8 _) ⟨w8.heap.size, 0, none⟩ 1 1 [.int .u8 5] rfl rfl (new_one _ _ _) (by simp [Value.oneCell']) (by unfold maxLen; omega) (by omega) (by simp; omega) ?_; intro v' w9 hown2 hgrow _; obtain ⟨cap9, by9, ev, hc9, lb9, hge9, hW9⟩ := HOW.out v' w9 hown2; have hb9 := below_grown hb8 (Nat.le_refl _) hown8 hgrow; subst ev; clear hgrow hown2)
              clear hown8 HOW HBL
              go_loopw [17] (fun iv wr => ∃ j : Nat, j ≤ m + 1 ∧ iv = .int .i64 (j : Int) ∧ Wrt wr by9 (m + 1) ∧ Below w7.heap.size w7 wr) (fun iv _ => m + 1 - (intOf iv).toNat)
              case atStart => exact ⟨0, Nat.zero_le _, rfl, hW9, hb9⟩
              case round =>
                clear hW9 hb9
                obtain ⟨s, hsm, rfl, hW, hB⟩ := hrel
                by_cases hls : s < m + 1
                · have t4 : (s : Int) < ((m + 1 : Nat) : Int) := by omega
                  obtain ⟨x, hx⟩ := hW.c s hls
                  have hz := hW.z s
                  have HP := Lib.hid (hW.put s 3)
                  have HPB := Lib.hid (hB.setCell (p := ⟨by9, s, none⟩) hge9 (.int .u8 3))
                  clear hW hB
                  go_wp2_with fail
                  go_roundw
                  case rel => exact ⟨s + 1, by omega, by go_num, HP.out, HPB.out⟩
                  case measure => simp [intOf]; omega
                · have t4 : ¬ (s : Int) < ((m + 1 : Nat) : Int) := by omega
                  have hCa := hC7.below hB
                  have hOa := hO7.below hB
                  have hSa := hSx.below hB
                  have HBa := Lib.hid (HB7.out.trans (hB.mono HB7.out.size))
                  have CG := goes_any hOa.i hmost (by omega) (fun i _ => by omega) qw capw hOa.q 0
                  rw [HI.out] at CG
                  clear hC7 hO7 hSx hB hW HB7
                  go_wp2_with fail
                  refine CG.mono ?_
                  rintro e wb ⟨rfl, hbb⟩
                  clear CG
                  have hCb := hCa.below hbb
                  have hOb := hOa.below hbb
                  have hSb := hSa.below hbb
                  have HBb := Lib.hid (HBa.out.trans (hbb.mono HBa.out.size))
                  have CX := bytesM_any hCb
                  rw [HMD.out, HGB.out] at CX
                  clear hCa hOa hSa hbb HBa
                  go_wp2_with fail
                  refine CX.mono ?_
                  rintro e wc ⟨vc, rfl, hIc, hbc⟩
                  clear CX
                  obtain ⟨ac, cc, ev, hSc⟩ := hIc.sl
                  subst ev
                  have CQ := bytes_any ax ac m cx cc gb wc (hSb.below hbc) hSc (by omega)
                  have hOc := hOb.below hbc
                  have HBc := Lib.hid (HBb.out.trans (hbc.mono HBb.out.size))
                  clear hCb hOb hSb hbc HBb hIc hSc
                  go_wp2_with fail
                  refine CQ.mono ?_
                  rintro e wd1 ⟨rfl, hbd⟩
                  clear CQ
                  have hOd := hOc.below hbd
                  have HBd := Lib.hid (HBc.out.trans (hbd.mono HBc.out.size))
                  have CA := allM_any hOd.d
                  clear hOc hbd HBc
                  go_wp2_with fail
                  refine CA.mono ?_
                  rintro e we ⟨r5, h5, cap5', rfl, hr5, hh5, hRw5, hbe⟩
                  clear CA
                  have CG := goes_any hRw5 hmost (by omega) (fun i _ => by omega) qw capw (hOd.below hbe).q 0
                  have HBe := Lib.hid (HBd.out.trans (hbe.mono HBd.out.size))
                  clear hOd hbe HBd hRw5
                  generalize itv L r5 = I5 at CG ⊢
                  go_wp2_with fail
                  refine CG.mono ?_
                  rintro e wf ⟨rfl, hbf⟩
                  clear CG
                  have HBf := Lib.hid (HBe.out.trans (hbf.mono HBe.out.size))
                  clear hbf HBe
                  go_wp2_with fail
                  refine (awake_any _).mono ?_
                  rintro e wg ⟨rfl, hbg⟩
                  go_wp2
                  go_ret
                  exact ⟨rfl, HBf.out.trans (hbg.mono HBf.out.size)⟩
set_option maxRecDepth 100000 in
theorem ownLaw_walk (l : Int) (a : Option Addr) (n cap b off : Nat) (K M : Nat → Int) (w : World) (hs : Ss w a n cap b off K M) :
    Calls Try.prog 7 #[.int .i64 l, .slice a n cap] w fun e w' => e = .returned (.bool true) ∧ Below w.heap.size w w' := by
  by_cases hn : n ≤ 300
  · by_cases hl : 3 ≤ l ∧ l ≤ 10
    · obtain ⟨L, rfl⟩ : ∃ L : Nat, l = (L : Int) := ⟨l.toNat, by omega⟩
      exact ownLaw_near ⟨rfl, by omega, by omega⟩ (by omega) a n cap b off K M w hs hn
    · have i1 : ¬ (300 : Int) < (n : Int) := by omega
      by_cases i2 : l < 3
      case' neg => have i3 : 10 < l := by omega
      all_goals
        clear hl hs
        go_enter Try.func7, Try.ntmps7
        go_wp2_with fail
        refine (awake_any _).mono ?_
        rintro e w6 ⟨rfl, hb6⟩
        go_wp2
        go_ret
        exact ⟨rfl, hb6⟩
  · have i1 : (300 : Int) < (n : Int) := by omega
    clear hs
    go_enter Try.func7, Try.ntmps7
    go_wp2_with fail
    refine (awake_any _).mono ?_
    rintro e w6 ⟨rfl, hb6⟩
    go_wp2
    go_ret
    exact ⟨rfl, hb6⟩
end Go.Proofs.Ytajbieokcdejgaa
