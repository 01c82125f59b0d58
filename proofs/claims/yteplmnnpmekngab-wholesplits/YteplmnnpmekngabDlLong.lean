/-
  What divideLong of package whole does.
-/
import Derived.Test.YteplmnnpmekngabDlRound
import Derived.Test.YteplmnnpmekngabLz32
namespace Go.Proofs.Yteplmnnpmekngab
open Go.RowKit Go.Shelf
attribute [local go_sem] Oper.semAt_some

theorem put_list {U rs zs : List Nat} {k n : Nat} (hk : k + (n + 1) ≤ U.length) (hr : rs.length = n + 1) (hz : zs.length = n) : (((U.take k ++ rs ++ U.drop (k + (n + 1))).take k ++ zs ++ (U.take k ++ rs ++ U.drop (k + (n + 1))).drop (k + n)).set (k + n) 0) = U.take k ++ (zs ++ [0]) ++ U.drop (k + (n + 1)) := by
  have lk : (U.take k).length = k := by simp; omega
  have e1 : (U.take k ++ rs ++ U.drop (k + (n + 1))).take k = U.take k := by
    rw [List.append_assoc, List.take_append_of_le_length (by omega), List.take_take, Nat.min_self]
  have e2 : (U.take k ++ rs ++ U.drop (k + (n + 1))).drop (k + n) = rs.drop n ++ U.drop (k + (n + 1)) := by
    rw [List.append_assoc, List.drop_append, lk, List.drop_of_length_le (by omega), List.nil_append, show k + n - k = n by omega, List.drop_append_of_le_length (by omega)]
  have e3 : rs.drop n = [rs[n]'(by omega)] := by
    rw [List.drop_eq_getElem_cons (by omega), List.drop_of_length_le (by omega)]
  rw [e1, e2, e3, List.set_append_right _ _ (by simp; omega)]
  rw [show k + n - (U.take k ++ zs).length = 0 by rw [List.length_append, lk, hz]; omega]
  simp

set_option maxRecDepth 100000 in
set_option maxHeartbeats 4000000 in
theorem long_any (ax ay : Option Addr) (nx cx ny cy m : Nat) (xs ys : List Nat) (w : World) (hx : Sl .u32 w (.slice ax nx cx) xs) (hy : Sl .u32 w (.slice ay ny cy) ys) (ox : okw xs) (oy : okw ys) (bx : xs.length ≤ 1000) (hm : ys.length = m + 2) (hxy : ys.length ≤ xs.length) (ty : ys[m + 1]?.getD 0 ≠ 0) :
    Calls Try.prog 36 #[.slice ax nx cx, .slice ay ny cy] w fun e w' => ∃ a1 l1 c1 a2 l2 c2 Q R, e = .returned (.tuple #[.slice a1 l1 c1, .slice a2 l2 c2]) ∧ Ow .u32 w.heap.size w' (.slice a1 l1 c1) Q ∧ Ow .u32 w.heap.size w' (.slice a2 l2 c2) R ∧ okw Q ∧ okw R ∧ Tr Q ∧ Tr R ∧ val Q = val xs / val ys ∧ val R = val xs % val ys ∧ Below w.heap.size w w' := by
  have hlx := hx.len
  obtain rfl : ny = m + 2 := by rw [hy.len, hm]
  obtain ⟨by_, offy, hpy, sy⟩ := hy.place
  obtain ⟨rfl, hby⟩ := hpy (fun e => by rw [e] at hm; simp at hm)
  clear hpy
  have ytop := okw_get oy (m + 1)
  have hB0 : Below w.heap.size w (w.alloc (.cells #[.slice none 0 0] 22)) := below_alloc _ _
  have cy1 := sy.below hB0 hby (m + 1) (by omega)
  have HY : Hid (ys.length = m + 2) := hm
  have HX : Hid (xs.length = nx) := hlx.symm
  have bx1 : nx ≤ 1000 := by omega
  have bx2 : m + 2 ≤ nx := by omega
  obtain ⟨t, ht⟩ : ∃ t, ys[m + 1]?.getD 0 = t := ⟨_, rfl⟩
  rw [ht] at ty ytop cy1
  have HTop : Hid (ys[m + 1]?.getD 0 = t) := ht
  clear hm hlx bx hxy ht
  refine (callsIn_wide (n := 3)).1 ?_
  refine callsIn_of_wp_marks Try.func36 rfl trivial ?_ rfl
  simp only [Try.ntmps36, List.size_toArray, List.length_cons, List.length_nil, Nat.reduceAdd, Nat.reduceSub, Array.replicate_succ, Array.replicate_zero, List.push_toArray, List.append_toArray, List.nil_append, List.cons_append]
  gi_wp2_with fail
  refine ⟨trivial, (callsIn_wide.2 (lz32_any t (by omega) ytop _)).mono ?_⟩
  rintro e w' ⟨s, rfl, ⟨hs1, hs2, hs3⟩, rfl⟩
  clear cy1
  have HS : Hid (2147483648 ≤ t * 2 ^ s ∧ t * 2 ^ s < 4294967296) := ⟨hs2, hs3⟩
  clear hs2 hs3
  have bB := Boxed.new w 22 (.slice none 0 0)
  obtain ⟨W0, hW0⟩ : ∃ W0, w.alloc (.cells #[.slice none 0 0] 22) = W0 := ⟨_, rfl⟩
  have hlt0 : w.heap.size < W0.heap.size := by rw [← hW0]; simp
  rw [hW0] at hB0 bB ⊢
  clear hW0
  gi_wp2_with fail
  refine ⟨trivial, (callsIn_wide.2 (shiftUp_any ax nx cx s xs W0 (hx.below hB0) (by rw [HX.out]; omega) ox (by omega))).mono ?_⟩
  rintro e W1 ⟨U0, rfl, hU0, oU0, vU0, rU0, hB1⟩
  rw [HX.out] at hU0 ⊢
  have HU0 : Hid (U0.length = nx + 1) := hU0
  have lU := rU0.lt
  have bB1 := boxed_below bB hB1
  replace hB1 : Below w.heap.size w W1 := hB0.trans (hB1.mono hB0.size)
  clear hB0 bB
  obtain ⟨gU, hgU⟩ : ∃ g, W0.heap.size = g := ⟨_, rfl⟩
  rw [hgU] at rU0 lU hlt0 ⊢
  clear hU0 hgU
  gi_wp2_with fail
  replace bB1 := bB1.alloc (.cells #[.slice (some ⟨gU, 0, none⟩) (nx + 1) (nx + 1)] 22)
  have b7 := Boxed.new W1 22 (.slice (some ⟨gU, 0, none⟩) (nx + 1) (nx + 1))
  have hB2 : Below W1.heap.size W1 (W1.alloc (.cells #[.slice (some ⟨gU, 0, none⟩) (nx + 1) (nx + 1)] 22)) := below_alloc _ _
  have rU1 := rU0.belowW hB2
  have hB3 := hB1.trans (hB2.mono hB1.size)
  obtain ⟨W2, hW2⟩ : ∃ W2, W1.alloc (.cells #[.slice (some ⟨gU, 0, none⟩) (nx + 1) (nx + 1)] 22) = W2 := ⟨_, rfl⟩
  have hlt2 : W1.heap.size < W2.heap.size := by rw [← hW2]; simp
  rw [hW2] at bB1 b7 rU1 hB3 ⊢
  clear hW2 hB2 rU0 hB1
  obtain ⟨N7, hN7⟩ : ∃ g, W1.heap.size = g := ⟨_, rfl⟩
  rw [hN7] at lU b7 hlt2 ⊢
  clear hN7
  refine ⟨trivial, (callsIn_wide.2 (shiftUp_any _ _ cy s ys W2 (hy.below hB3) (by rw [HY.out]; omega) oy (by omega))).mono ?_⟩
  rintro e W3 ⟨V0, rfl, hV0, oV0, vV0, rV0, hB4⟩
  rw [HY.out] at hV0 ⊢
  have HV0 : Hid (V0.length = m + 3) := hV0
  have lV := rV0.lt
  replace bB1 := boxed_below bB1 hB4
  replace b7 := boxed_below b7 hB4
  replace rU1 := rU1.belowW hB4
  replace hB4 : Below w.heap.size w W3 := hB3.trans (hB4.mono hB3.size)
  obtain ⟨gV, hgV⟩ : ∃ g, W2.heap.size = g := ⟨_, rfl⟩
  rw [hgV] at rV0 lV hlt2 ⊢
  clear hV0 hB3 hgV
  obtain ⟨i0, hi, hz0, hz1, hz2⟩ := info_parts Try.infoWord
  have cB := bB1.cell
  have fB := bB1.frozen
  gi_wp2_with (first
    | (gi_at_make; refine madeIn _ rfl _ _ 22 rfl w.heap.size 52 i0 (.int .u32 0) 1 Try.underlying22 hi hz0 hz1 .i64 .i64 _ _ (nx - (m + 2) + 1) rfl rfl (by omega) (by omega) (by rw [hz2]; omega) (by unfold maxLen; omega) (by have := hB4.size; simp; omega) ?_; intro W5 hown5 hgrow5; have bB5 := (bB1.alloc (.cells #[.slice (some ⟨gV, 0, none⟩) (m + 2) (m + 2 + 1)] 22)).kept hgrow5 (fun e => by cases e); have cB5 := bB5.cell; have fB5 := bB5.frozen)
    | (refine ⟨trivial, ?_⟩; gi_at_call 27; refine (callsIn_wide.2 (back_any _ _ _ _)).mono ?_; rintro e w' ⟨rfl, rfl⟩))
  have hb4 := hB4.size
  have r5 : Row .u32 52 W5 (W3.heap.size + 1) (List.replicate (nx - (m + 2) + 1) 0) := row_made (by simpa using hown5)
  have hsz5 := r5.lt
  have hBn : Below W3.heap.size W3 (W3.alloc (.cells #[.slice (some ⟨gV, 0, none⟩) (m + 2) (m + 2 + 1)] 22)) := below_alloc _ _
  have kU : Row .u32 52 W5 gU U0 := (hgrow5.block gU (rU1.belowW hBn).lt (fun e => by cases e)).trans (rU1.belowW hBn)
  have kV : Row .u32 52 W5 gV V0 := (hgrow5.block gV (rV0.belowW hBn).lt (fun e => by cases e)).trans (rV0.belowW hBn)
  have k7 : Boxed W5 N7 22 (.slice (some ⟨gU, 0, none⟩) (nx + 1) (nx + 1)) := (b7.alloc _).kept hgrow5 (fun e => by cases e)
  have k8 : Boxed W5 W3.heap.size 22 (.slice (some ⟨gV, 0, none⟩) (m + 2) (m + 2 + 1)) := (Boxed.new W3 22 (.slice (some ⟨gV, 0, none⟩) (m + 2) (m + 2 + 1))).kept hgrow5 (fun e => by cases e)
  have hB5 : Below w.heap.size w W5 := (hB4.trans (hBn.mono hb4)).grown hgrow5 (by simp; omega) (fun k e => by cases e)
  obtain ⟨N8, hN8⟩ : ∃ g, W3.heap.size = g := ⟨_, rfl⟩
  obtain ⟨Bs, hBs⟩ : ∃ g, W5.heap.size = g := ⟨_, rfl⟩
  rw [hN8] at r5 hsz5 k8 lV hb4 ⊢
  rw [hBs] at hsz5 ⊢
  obtain ⟨L, hL⟩ : ∃ L, nx - (m + 2) + 1 = L := ⟨_, rfl⟩
  rw [hL] at r5 ⊢
  have HL : Hid (L + (m + 1) = nx) := (by show _ = _; omega)
  have hL1 : L ≤ 1000 := by omega
  have hL0 : 0 < L := by omega
  obtain ⟨gT, hgT⟩ : ∃ g, N8 + 1 = g := ⟨_, rfl⟩
  rw [hgT] at r5 hsz5 ⊢
  have hO : Ord w.heap.size w.heap.size gU N7 gV N8 gT := ⟨Nat.le_refl _, hlt0, lU, hlt2, lV, by omega⟩
  have o1 := hO.h1; have o2 := hO.h2; have o3 := hO.h3; have o4 := hO.h4; have o5 := hO.h5
  have bS := Boxed.new (W5.setCell ⟨w.heap.size, 0, none⟩ (.slice (some ⟨gT, 0, none⟩) L L)) 22 (.slice (some ⟨gT, 0, none⟩) L L)
  rw [show (W5.setCell ⟨w.heap.size, 0, none⟩ (.slice (some ⟨gT, 0, none⟩) L L)).heap.size = W5.heap.size by simp [World.setCell], hBs] at bS
  have D0 : Dl w ((W5.setCell ⟨w.heap.size, 0, none⟩ (.slice (some ⟨gT, 0, none⟩) L L)).alloc (.cells #[.slice (some ⟨gT, 0, none⟩) L L] 22)) w.heap.size gU N7 gV N8 gT (nx + 1) (m + 2) L U0 (V0.take (m + 2)) (List.replicate L 0 ++ []) := by
    have ba := below_alloc (W5.setCell ⟨w.heap.size, 0, none⟩ (.slice (some ⟨gT, 0, none⟩) L L)) (.cells #[.slice (some ⟨gT, 0, none⟩) L L] 22)
    have rU := (kU.other (p := ⟨w.heap.size, 0, none⟩) (by simp only; omega) (.slice (some ⟨gT, 0, none⟩) L L)).belowW ba
    have rV := (kV.other (p := ⟨w.heap.size, 0, none⟩) (by simp only; omega) (.slice (some ⟨gT, 0, none⟩) L L)).belowW ba
    have rT := (r5.other (p := ⟨w.heap.size, 0, none⟩) (by simp only; omega) (.slice (some ⟨gT, 0, none⟩) L L)).belowW ba
    have hb5 := hB5.setCell (p := ⟨w.heap.size, 0, none⟩) (Nat.le_refl _) (.slice (some ⟨gT, 0, none⟩) L L)
    refine ⟨(bB5.set _).alloc _, (k7.other (by omega) _).alloc _, (k8.other (by omega) _).alloc _, rU.seg, rU.free _ _, fun e => ?_, rV.seg.take _, fun e => ?_, by rw [List.append_nil]; exact rT, hb5.trans (ba.mono hb5.size)⟩
    · have := HU0.out; rw [e] at this; simp at this
    · have h1 := congrArg List.length e
      have h2 := HV0.out
      rw [List.length_take, h2] at h1
      simp at h1
  obtain ⟨W6, hW6⟩ : ∃ W6, (W5.setCell ⟨w.heap.size, 0, none⟩ (.slice (some ⟨gT, 0, none⟩) L L)).alloc (.cells #[.slice (some ⟨gT, 0, none⟩) L L] 22) = W6 := ⟨_, rfl⟩
  have hsz6 : W6.heap.size = Bs + 1 := by rw [← hW6, World.size_alloc, show (W5.setCell ⟨w.heap.size, 0, none⟩ (.slice (some ⟨gT, 0, none⟩) L L)).heap.size = W5.heap.size by simp [World.setCell], hBs]
  rw [hW6] at bS D0 ⊢
  obtain ⟨vs, hvs⟩ : ∃ vs, V0.take (m + 2) = vs := ⟨_, rfl⟩
  have hlv : vs.length = m + 2 := by rw [← hvs, List.length_take, HV0.out]; omega
  have okv : okw vs := by rw [← hvs]; exact okw_take oV0 _
  have hnorm := shifted_norm (n := m + 1) (by rw [HY.out]) oy hs1 (by rw [HTop.out]; exact HS.out.1) (by rw [HTop.out]; exact HS.out.2) (by rw [HV0.out]) oV0 vV0
  have y1e : vs[m + 1]?.getD 0 = V0[m + 1]?.getD 0 := by rw [← hvs, List.getElem?_take_of_lt (by omega)]
  rw [← y1e, hvs] at hnorm
  rw [hvs] at D0
  have NV : Hid (val vs = val ys * 2 ^ s ∧ 2147483648 ≤ vs[m + 1]?.getD 0) := hnorm
  have HLv : Hid (vs.length = m + 2) := hlv
  clear hW6 hnorm y1e hvs rV0 oV0 vV0 HV0 rU1 bB1 b7 kU kV k7 k8 r5 hown5 hgrow5 bB5 cB5 fB5 hBn hB4 hB5 cB fB hL hgT hN8 hBs sy lU hlt2 lV hb4 hlv hlt0
  have hy0 : 0 < val ys := by
    have e := val_take_succ ys (m + 1) (by rw [HY.out]; omega)
    rw [List.take_of_length_le (by rw [HY.out]; omega), HTop.out] at e
    have : pw (m + 1) * 1 ≤ pw (m + 1) * t := Nat.mul_le_mul_left _ (by omega)
    have := pw_pos (m + 1)
    omega
  have hfirst : val xs * 2 ^ s < pw L * (val ys * 2 ^ s) := by
    refine first_lt (m := nx) (by rw [← HX.out]; exact val_lt ox) hs1 ⟨m + 1, by have := HL.out; omega, ?_⟩
    rw [← NV.out.1]
    have e := val_take_succ vs (m + 1) (by rw [HLv.out]; omega)
    rw [List.take_of_length_le (by rw [HLv.out]; omega)] at e
    have : pw (m + 1) * 2147483648 ≤ pw (m + 1) * (vs[m + 1]?.getD 0) := Nat.mul_le_mul_left _ NV.out.2
    omega
  refine back_loop (S := Nat × List Nat × List Nat) Bs gT 0 L L (some ⟨gT, 0, none⟩) (by omega) rfl rfl (by omega) (fun q => q.1)
    (fun q W => (q.1 ≤ L ∧ q.2.1.length = nx + 1 ∧ okw q.2.1 ∧ q.2.2.length = L - q.1 ∧ okw q.2.2 ∧ val xs * 2 ^ s = val q.2.2 * pw q.1 * (val ys * 2 ^ s) + val q.2.1 ∧ val q.2.1 < pw q.1 * (val ys * 2 ^ s)) ∧ Dl w W w.heap.size gU N7 gV N8 gT (nx + 1) (m + 2) L q.2.1 vs (List.replicate q.1 0 ++ q.2.2) ∧ Boxed W Bs 22 (.slice (some ⟨gT, 0, none⟩) L L))
    (fun _ _ => False)
    (OwnFrom.and (ownFrom_pure _ _) (OwnFrom.and (own_dl (fun q : Nat × List Nat × List Nat => q.2.1) vs (fun q : Nat × List Nat × List Nat => List.replicate q.1 0 ++ q.2.2) (by have := D0.be.size; omega)) (OwnFrom.box _ _ _ _)))
    (fun c => ownFrom_pure _ (fun _ => False))
    ?read (L, U0, []) rfl ⟨⟨Nat.le_refl _, HU0.out, oU0, by simp, okw_nil, by simp only [val, Nat.zero_mul, Nat.zero_add]; exact vU0.symm, by rw [vU0]; exact hfirst⟩, D0, bS⟩
    (fun i v => { tmps := #[.slice ax nx cx, .slice (some ⟨by_, offy, none⟩) (m + 2) cy, undef, undef, .pointer (some ⟨w.heap.size, 0, none⟩), .slice none 0 0, .int .i64 (s : Int), .pointer (some ⟨N7, 0, none⟩), .pointer (some ⟨N8, 0, none⟩), .int .i64 (i : Int), undef, undef, .slice (some ⟨by_, offy, none⟩) (m + 2) cy, .slice (some ⟨by_, offy, none⟩) (m + 2) cy, .int .i64 ((m : Int) + 2), .int .i64 ((m : Int) + 2 - 1), .pointer (some ⟨by_, offy + (m + 1), none⟩), .int .u32 (t : Int), .int .i64 (s : Int), .slice ax nx cx, .int .i64 (s : Int), .slice (some ⟨gU, 0, none⟩) (nx + 1) (nx + 1), .slice (some ⟨by_, offy, none⟩) (m + 2) cy, .int .i64 (s : Int), .slice (some ⟨gV, 0, none⟩) (m + 2 + 1) (m + 2 + 1), .slice (some ⟨by_, offy, none⟩) (m + 2) cy, .int .i64 ((m : Int) + 2), .slice (some ⟨gV, 0, none⟩) (m + 2) (m + 2 + 1), .slice ax nx cx, .int .i64 (nx : Int), .slice (some ⟨by_, offy, none⟩) (m + 2) cy, .int .i64 ((m : Int) + 2), .int .i64 ((nx : Int) - ((m : Int) + 2)), .int .i64 ((nx : Int) - ((m : Int) + 2) + 1), .slice (some ⟨gT, 0, none⟩) L L, .slice (some ⟨gT, 0, none⟩) L L, .func (.func 40) #[] #[.pointer (some ⟨Bs, 0, none⟩)], .int .i64 (i : Int), .int .u32 (v : Int), undef, undef, undef, undef, undef, undef, undef, undef, undef, undef, undef, undef, undef, undef, undef, undef, undef, undef, undef, undef, undef, undef, undef, undef, undef, undef, undef, undef, undef, undef, undef, undef, undef, undef, undef, undef, undef, undef, undef, undef, undef, undef, undef, undef], defers := [] }) ?assign ?body ?done ?stop
  case read =>
    rintro ⟨k, U, qs⟩ W ⟨⟨hk, _⟩, D, bS⟩
    simp only at hk D
    refine ⟨hk, bS.cell, fun h => ⟨rfl, (List.replicate k 0 ++ qs)[k - 1]?.getD 0, ?_⟩⟩
    simp only at h
    rw [Nat.zero_add]
    exact D.rt.cell (k - 1) (by simp; omega)
  case assign =>
    intro l i v W K hK
    gi_wp2
    exact hK
  case body =>
    rintro l ⟨k, U, qs⟩ v W ⟨⟨hk, hlU, oU, hq, oq, hX, hU⟩, D, bS⟩ hpos e1 hv
    simp only at hk hlU oU hq oq hX hU D hpos
    clear hv e1
    cases k with
    | zero => exact absurd hpos (by simp)
    | succ k =>
      simp only [Nat.add_sub_cancel]
      have hkn : k + (m + 3) ≤ nx + 1 := by have := HL.out; omega
      obtain ⟨ps, hps⟩ : ∃ ps, (U.drop k).take (m + 3) = ps := ⟨_, rfl⟩
      have lps : ps.length = m + 3 := by rw [← hps]; simp; omega
      have ops : okw ps := by rw [← hps]; exact okw_take (okw_drop oU k) _
      have sp : Seg .u32 W gU k ps := by have := D.su.sub k (m + 3) (by omega); rwa [hps, Nat.zero_add] at this
      have fp : Free W gU k (m + 3) := by have := D.fu.sub k (m + 3) (by omega); rwa [Nat.zero_add] at this
      have hP : val ps < 4294967296 * val vs := by rw [← hps, NV.out.1]; exact part_lt hU (by omega)
      have c2 := sp (m + 2) (by omega)
      have c1 := sp (m + 1) (by omega)
      have c0 := sp m (by omega)
      have d1 := D.sv (m + 1) (by rw [HLv.out]; omega)
      have d0 := D.sv m (by rw [HLv.out]; omega)
      have q2 := okw_get ops (m + 2)
      have q1 := okw_get ops (m + 1)
      have q0 := okw_get ops m
      have z1 := okw_get okv (m + 1)
      have z0 := okw_get okv m
      have z2 := NV.out.2
      have eV := val_top2 vs m HLv.out
      have eP := val_top3 ps m lps
      have lV := val_lt (okw_take okv m)
      have lP := val_lt (okw_take ops m)
      rw [List.length_take, Nat.min_eq_left (by rw [HLv.out]; omega)] at lV
      rw [List.length_take, Nat.min_eq_left (by omega)] at lP
      have hUle := top_le eV lV eP hP
      have nm : Norm (vs[m + 1]?.getD 0 * 4294967296 + vs[m]?.getD 0) (vs[m + 1]?.getD 0) (vs[m]?.getD 0) := ⟨rfl, z0, z2, z1⟩
      have G := guess_any gU k gV 0 m (nx + 1 - k) (m + 2 + 1) _ _ _ _ _ _ W c2 c1 c0 d1 d0 nm q2 q1 q0 hUle (by omega)
      have HEQ : Hid (∀ g, Most (vs[m + 1]?.getD 0 * 4294967296 + vs[m]?.getD 0) (ps[m + 2]?.getD 0 * 4294967296 + ps[m + 1]?.getD 0) (ps[m]?.getD 0) g → (g * val vs ≤ val ps ∧ val ps < (g + 1) * val vs) ∨ (0 < g ∧ val ps < g * val vs ∧ (g - 1) * val vs ≤ val ps)) := fun g hg => guess_two eV lV eP lP (by omega) hP hg
      clear eV eP lV lP hUle nm c2 c1 c0 d1 d0 q2 q1 q0 z1 z0 z2
      have HPS : Hid ((U.drop k).take (m + 3) = ps ∧ ps.length = m + 3 ∧ U.length = nx + 1 ∧ qs.length = L - (k + 1)) := ⟨hps, lps, hlU, hq⟩
      clear hps lps hlU hq
      have cu := D.bu.cell
      have cv := D.bv.cell
      have ct := D.bt.cell
      gi_wp2_with fail
      rw [show k + (m + 2) + 1 - k = m + 3 by omega]
      refine ⟨trivial, (CallsIn.inRound l (callsIn_wide.2 G)).mono ?_⟩
      rintro e W1 ⟨g, rfl, hmost, hb1⟩
      have hk1 : Hid (KeepsFrom W6.heap.size W W1) := keeps_below hb1
      have D1 := D.below hb1
      have lu1 := D.su.lt D.un
      replace sp := sp.below hb1 lu1
      replace fp := fp.below hb1 lu1
      replace bS := boxed_below bS hb1
      have dig := HEQ.out g hmost
      have hg32 := hmost.1
      clear hb1 G D lu1 HEQ hmost cu cv ct
      have cu := D1.bu.cell
      have cv := D1.bv.cell
      have ct := D1.bt.cell
      gi_wp2_with fail
      refine ⟨trivial, (CallsIn.inRound l (callsIn_wide.2 (take_any gU k gV 0 (m + 2) (nx + 1 - k) (m + 2 + 1) g ps vs W1 HLv.out HPS.out.2.1 (D1.sv.lt D1.vn) (by omega) sp (by rw [HPS.out.2.1]; exact fp) D1.sv ops okv hg32 (by omega)))).mono ?_⟩
      rintro e W2 ⟨b, rs, rfl, hb, lr, okr, er, sr, ht2⟩
      have hRl := val_lt okr
      rw [lr] at hRl
      have dg := digit_taken hRl er hb dig
      have D2 := D1.turn hO ht2 sr lr (by rw [HPS.out.2.2.1]; omega)
      replace bS : Boxed W2 Bs 22 (.slice (some ⟨gT, 0, none⟩) L L) := (ht2.block Bs bS.lt (by omega)).trans bS
      have hk2 : Hid (KeepsFrom W6.heap.size W W2) := hk1.out.trans (keeps_turn ht2 (by omega))
      replace fp : Free W2 gU k (m + 3) := fun j hj => (ht2.frozen _).trans (fp j hj)
      have Hops : Hid (val ps < 4294967296 * val vs ∧ okw ps) := ⟨hP, ops⟩
      clear hRl er hb dig D1 ht2 hk1 sp cu cv ct hP ops
      have hoU : okw (U.take k ++ rs ++ U.drop (k + (m + 2 + 1))) := okw_append.2 ⟨okw_append.2 ⟨okw_take oU k, okr⟩, okw_drop oU _⟩
      have hz : ∀ j, k + (m + 3) ≤ j → U[j]?.getD 0 = 0 := fun j hj => by
        refine high_zero (m := k + 1 + (m + 2)) (Nat.lt_of_lt_of_le hU ?_) j (by omega)
        rw [← NV.out.1, show pw (k + 1 + (m + 2)) = pw (k + 1) * pw (m + 2) from pw_add _ _]
        exact Nat.mul_le_mul_left _ (Nat.le_of_lt (by have := val_lt okv; rwa [HLv.out] at this))
      have HZ : Hid (∀ j, k + (m + 3) ≤ j → U[j]?.getD 0 = 0) := hz
      clear hz
      have HXU : Hid (val xs * 2 ^ s = val qs * pw (k + 1) * (val ys * 2 ^ s) + val U) := hX
      clear hX hU
      rcases dg with ⟨rfl, dg1, dg2⟩ | ⟨rfl, dg0, dg1, dg2, dg3⟩
      · have HD : Hid (val rs + g * val vs = val ps ∧ val rs < val vs) := ⟨dg1, dg2⟩
        clear dg1 dg2
        have b01 : ((0 : Nat) == 1) = false := rfl
        have cu := D2.bu.cell
        have cv := D2.bv.cell
        have ct := D2.bt.cell
        have cT := D2.rt.cell k (by simp; omega)
        have fT := D2.rt.fr k
        have hkL : k < L := by omega
        have eg : (g : Int) % 4294967296 = (g : Int) := by omega
        gi_wp2_with fail
        have st := long_step (X := val xs * 2 ^ s) (V := val ys * 2 ^ s) (k := k) (n := m + 3) (q := g) (qs := qs) (part' := rs) (by rw [HPS.out.2.2.1]; omega) HPS.out.1.symm lr HXU.out oU rfl rfl (by rw [← NV.out.1]; exact HD.out.1) (by rw [← NV.out.1]; exact HD.out.2) (by omega) HZ.out
        refine ⟨hk2.out.trans ((KeepsOthers.setCell _ _ _).from _), (k, U.take k ++ rs ++ U.drop (k + (m + 3)), g :: qs), rfl, ⟨by omega, ?_, hoU, ?_, okw_cons.2 ⟨hg32, oq⟩, st.1, st.2⟩, ?_, Boxed.kept bS (grownBy_setCell'' W2 _ _) (by simp; omega)⟩
        · have e1 := HPS.out.2.2.1
          simp [lr, e1]
          omega
        · have e1 := HPS.out.2.2.2
          simp [e1]
          omega
        · have D3 := D2.setT hO k g
          rw [repl_set] at D3
          exact D3
      · obtain ⟨g', rfl⟩ : ∃ g', g = g' + 1 := ⟨g - 1, by omega⟩
        have lt2 : (rs.take (m + 2)).length = m + 2 := by simp; omega
        have C : ∀ X, Seg .u32 X gU k rs → Free X gU k (m + 3) → Seg .u32 X gV 0 vs → Calls Try.prog 37 #[.slice (some ⟨gU, k, none⟩) (m + 2) (nx + 1 - k), .slice (some ⟨gV, 0, none⟩) (m + 2) (m + 2 + 1)] X fun e w' => ∃ (c : Nat) (zs : List Nat), e = .returned (.int .u32 (c : Int)) ∧ c ≤ 1 ∧ zs.length = m + 2 ∧ okw zs ∧ (rs[m + 2]?.getD 0 + c = 4294967296 ∧ val zs + g' * val vs = val ps ∧ val zs < val vs) ∧ Seg .u32 w' gU k zs ∧ OnlyRow X w' gU k (m + 2) := by
          intro X sX fX vX
          have A := addInto_some gU k (nx + 1 - k) gV 0 (m + 2 + 1) (some ⟨gV, 0, none⟩) (rs.take (m + 2)) vs X (sX.take (m + 2)) (fX.le (by rw [lt2]; omega)) (fun _ => ⟨rfl, by omega⟩) vX (by rw [lt2, HLv.out]; exact Nat.le_refl _) (by rw [lt2]; omega) (okw_take okr _) okv
          simp only [lt2, HLv.out] at A
          refine A.mono ?_
          rintro e w' ⟨c, zs, rfl, hc, lz, oz, ez, sz, hz⟩
          refine ⟨c, zs, rfl, hc, lz, oz, ?_, sz, hz⟩
          have hv := val_lt okv
          have hzl := val_lt oz
          rw [HLv.out] at hv
          rw [lz] at hzl
          have er := val_take_succ rs (m + 2) (by omega)
          rw [List.take_of_length_le (by omega)] at er
          have pb := put_back (P := val ps) (G := (g' + 1) * val vs) (V := val vs) (L := val (rs.take (m + 2))) (L' := val zs) (c := c) (t := rs[m + 2]?.getD 0) (M := pw (m + 2)) (by rw [← er, dg1, pw_succ]) dg3 (by omega) (by omega) hzl (pw_pos _)
          refine ⟨pb.1, ?_, ?_⟩
          · rw [pb.2, Nat.add_mul, Nat.one_mul] at *
            omega
          · rw [pb.2]
            omega
        have cu := D2.bu.cell
        have cv := D2.bv.cell
        have ct := D2.bt.cell
        gi_wp2_with fail
        obtain ⟨r2, hr2⟩ : ∃ r2, rs[m + 2]?.getD 0 = r2 := ⟨_, rfl⟩
        have hr2b := okw_get okr (m + 2)
        have cr := sr (m + 2) (by omega)
        rw [hr2] at hr2b cr C
        have fr := fp (m + 2) (by omega)
        have Cd := C W2.drew sr fp D2.sv
        have HLR : Hid (rs.length = m + 3) := lr
        clear C hr2 lr lt2
        have hm : Try.prog.follows .mixedOrders = true := by kernel_rfl
        refine wpIn_mono (Q := fun e a' W' => e = .normal ∧ ∃ (c : Nat) (zs : List Nat) (W3 : World), c ≤ 1 ∧ zs.length = m + 2 ∧ okw zs ∧ (r2 + c = 4294967296 ∧ val zs + g' * val vs = val ps ∧ val zs < val vs) ∧ Seg .u32 W3 gU k zs ∧ OnlyRow W2.drew W3 gU k (m + 2) ∧ ∃ y46 y47 y48 y49 y50 y51 y52 y53 y54 y55 x56 x57 x58 x59 x60 x61 x62 x63 x64 x65 x66 x67 x68 : Value, a' = { tmps := #[.slice ax nx cx, .slice (some ⟨by_, offy, none⟩) (m + 2) cy, undef, undef, .pointer (some ⟨w.heap.size, 0, none⟩), .slice none 0 0, .int .i64 (s : Int), .pointer (some ⟨N7, 0, none⟩), .pointer (some ⟨N8, 0, none⟩), .int .i64 (k : Int), .slice (some ⟨gU, k, none⟩) (m + 3) (nx + 1 - k), .int .u64 (g' : Int), .slice (some ⟨by_, offy, none⟩) (m + 2) cy, .slice (some ⟨by_, offy, none⟩) (m + 2) cy, .int .i64 ((m : Int) + 2), .int .i64 ((m : Int) + 2 - 1), .pointer (some ⟨by_, offy + (m + 1), none⟩), .int .u32 (t : Int), .int .i64 (s : Int), .slice ax nx cx, .int .i64 (s : Int), .slice (some ⟨gU, 0, none⟩) (nx + 1) (nx + 1), .slice (some ⟨by_, offy, none⟩) (m + 2) cy, .int .i64 (s : Int), .slice (some ⟨gV, 0, none⟩) (m + 2 + 1) (m + 2 + 1), .slice (some ⟨by_, offy, none⟩) (m + 2) cy, .int .i64 ((m : Int) + 2), .slice (some ⟨gV, 0, none⟩) (m + 2) (m + 2 + 1), .slice ax nx cx, .int .i64 (nx : Int), .slice (some ⟨by_, offy, none⟩) (m + 2) cy, .int .i64 ((m : Int) + 2), .int .i64 ((nx : Int) - ((m : Int) + 2)), .int .i64 ((nx : Int) - ((m : Int) + 2) + 1), .slice (some ⟨gT, 0, none⟩) L L, .slice (some ⟨gT, 0, none⟩) L L, .func (.func 40) #[] #[.pointer (some ⟨Bs, 0, none⟩)], .int .i64 (k : Int), .int .u32 (v : Int), .slice (some ⟨gU, 0, none⟩) (nx + 1) (nx + 1), .int .i64 (k : Int), .int .i64 (k : Int), .slice (some ⟨gV, 0, none⟩) (m + 2) (m + 2 + 1), .int .i64 ((m : Int) + 2), .int .i64 ((k : Int) + ((m : Int) + 2)), .int .i64 ((k : Int) + ((m : Int) + 2) + 1), y46, y47, y48, y49, y50, y51, y52, y53, y54, y55, x56, x57, x58, x59, x60, x61, x62, x63, x64, x65, x66, x67, x68, undef, undef, undef, undef, undef, undef, undef, undef, undef, undef, undef, undef, undef, undef], defers := [] } ∧ W' = W3.setCell ⟨gU, k + (m + 2), none⟩ (.int .u32 0)) ?_ ?_
        · refine wpIn_region_any (by kernel_rfl) ?_
          refine any_round (by kernel_rfl) _ _ _ _ ?_
          change wpAnyIn _ _ _ _ _ _ _ _ _ (World.drew _)
          have u1 : (0 : Int) ≤ (m : Int) + 2 := by omega
          have u2 : ((m : Int) + 2).toNat = m + 2 := by omega
          have u3 : (m : Int) + 2 ≤ ((nx + 1 - k : Nat) : Int) := by omega
          have u4 : (m : Int) + 2 < (m : Int) + 3 := by omega
          have hN8U : N8 ≠ gU := by omega
          clear HZ HXU hoU Hops hk2 dg1 dg2 dg3 dg0 hx hy ox oy oU oq D2 bS HY HX bx1 bx2 ytop ty HTop hs1 HS HU0 oU0 vU0 hi hz0 hz1 hz2 D0 hsz5 hsz6 hO o1 o2 o3 o4 o5 HL hL1 hL0 okv NV HLv hy0 hfirst hk hkn HPS okr sr fp hg32 cu ct HLR hpos hby
          refine wpAnyIn_take (i := 0) (v := ?_) rfl rfl (by kernel_rfl) (by kernel_rfl) (by kernel_rfl) (fun _ _ _ h => by cases h.1) ⟨Or.inl ⟨by rfl, ?hy⟩, fun _ => rfl⟩ ?_
          case hy => (intro w; go_simp; try with_reducible rfl)
          refine wpAnyIn_take (i := 5) (v := ?_) rfl rfl (by kernel_rfl) (by kernel_rfl) (by kernel_rfl) (fun _ _ _ h => by cases h.1) ⟨Or.inl ⟨by rfl, ?hy⟩, fun _ => rfl⟩ ?_
          case hy => (intro w; go_simp; try with_reducible rfl)
          refine wpAnyIn_ready (rs := [1, 6, 9]) (by kernel_rfl) (by simp) ?_
          refine AllReadyIn.cons rfl (fun K hK => ?_) ?_
          · go_simp
            refine hK _ _ ?_
            clear hK K
            refine wpAnyIn_take (i := 2) (v := ?_) rfl rfl (by kernel_rfl) (by kernel_rfl) (by kernel_rfl) (fun _ _ _ h => by cases h.1) ⟨Or.inl ⟨by rfl, ?hy⟩, fun _ => rfl⟩ ?_
            case hy => (intro w; go_simp; try with_reducible rfl)
            refine wpAnyIn_take (i := 3) (v := ?_) rfl rfl (by kernel_rfl) (by kernel_rfl) (by kernel_rfl) (fun _ _ _ h => by cases h.1) ⟨Or.inl ⟨by rfl, ?hy⟩, fun _ => rfl⟩ ?_
            case hy => (intro w; go_simp; try with_reducible rfl)
            refine wpAnyIn_ready (rs := [4, 6, 9]) (by kernel_rfl) (by simp) ?_
            refine AllReadyIn.cons rfl (fun K hK => ?_) ?_
            · go_simp
              refine hK _ _ ?_
              clear hK K
              refine wpAnyIn_ready (rs := [6, 9]) (by kernel_rfl) (by simp) ?_
              refine AllReadyIn.cons rfl (fun K hK => ?_) ?_
              · go_simp
                refine hK _ _ ?_
                clear hK K
                refine wpAnyIn_take (i := 7) (v := ?_) rfl rfl (by kernel_rfl) (by kernel_rfl) (by kernel_rfl) (fun _ _ _ h => by cases h.1) ⟨Or.inl ⟨by rfl, ?hy⟩, fun _ => rfl⟩ ?_
                case hy => (intro w; go_simp; try with_reducible rfl)
                refine wpAnyIn_take (i := 8) (v := ?_) rfl rfl (by kernel_rfl) (by kernel_rfl) (by kernel_rfl) (fun _ _ _ h => by cases h.1) ⟨Or.inl ⟨by rfl, ?hy⟩, fun _ => rfl⟩ ?_
                case hy => (intro w; go_simp; try with_reducible rfl)
                refine wpAnyIn_ready (rs := [9]) (by kernel_rfl) (by simp) ?_
                refine AllReadyIn.cons rfl (fun K hK => ?_) ?_
                · go_simp
                  refine hK _ _ ?_
                  clear hK K
                  refine wpAnyIn_ready (rs := [10]) (by kernel_rfl) (by simp) ?_
                  refine AllReadyIn.cons rfl (fun K hK => ?_) ?_
                  · go_simp
                    refine ⟨trivial, (callsIn_wide.2 Cd).mono ?_⟩
                    rintro e W3 ⟨c, zs, rfl, hc, lz, oz, hpb, sz, hz⟩
                    have cr3 : W3.cell? ⟨gU, k + (m + 2), none⟩ = some (.int .u32 (r2 : Int)) := (hz.cell (k + (m + 2)) (.inr (Nat.le_refl _))).trans cr
                    have fr3 : W3.frozen? ⟨gU, k + (m + 2), none⟩ = false := (hz.frozen _).trans fr
                    have cv3 : W3.cell? ⟨N8, 0, none⟩ = _ := (World.cell?_of_block (a := ⟨N8, 0, none⟩) (hz.block N8 hN8U)).trans cv
                    have hrc : (r2 : Int) + (c : Int) = 4294967296 := by have := hpb.1; omega
                    refine hK _ _ ?_
                    clear hK K
                    refine wpAnyIn_take (i := 11) (v := ?_) rfl rfl (by kernel_rfl) (by kernel_rfl) (by kernel_rfl) (fun _ _ _ h => by cases h.1) ⟨Or.inl ⟨by rfl, ?hy⟩, fun _ => rfl⟩ ?_
                    case hy => (intro w; go_simp; try with_reducible rfl)
                    refine wpAnyIn_take (i := 12) (v := ?_) rfl rfl (by kernel_rfl) (by kernel_rfl) (by kernel_rfl) (fun _ _ _ h => by cases h.1) ⟨Or.inl ⟨by rfl, ?hy⟩, fun _ => rfl⟩ ?_
                    case hy => (intro w; go_simp; try with_reducible rfl)
                    refine wpAnyIn_ready (rs := [13]) (by kernel_rfl) (by simp) ?_
                    refine AllReadyIn.cons rfl (fun K hK => ?_) ?_
                    · go_simp
                      refine hK _ _ ?_
                      clear hK K
                      refine wpAnyIn_done (by kernel_rfl) ?_ _
                      exact ⟨rfl, c, zs, W3, hc, lz, oz, hpb, sz, hz, _, _, _, _, _, _, _, _, _, _, _, _, _, _, _, _, _, _, _, _, _, _, _, rfl, rfl⟩
                    exact AllReadyIn.nil
                  exact AllReadyIn.nil
                exact AllReadyIn.nil
              refine AllReadyIn.cons rfl (fun K hK => ?_) ?_
              · go_simp
                refine hK _ _ ?_
                clear hK K
                refine wpAnyIn_ready (rs := [6]) (by kernel_rfl) (by simp) ?_
                refine AllReadyIn.cons rfl (fun K hK => ?_) ?_
                · go_simp
                  refine hK _ _ ?_
                  clear hK K
                  refine wpAnyIn_take (i := 7) (v := ?_) rfl rfl (by kernel_rfl) (by kernel_rfl) (by kernel_rfl) (fun _ _ _ h => by cases h.1) ⟨Or.inl ⟨by rfl, ?hy⟩, fun _ => rfl⟩ ?_
                  case hy => (intro w; go_simp; try with_reducible rfl)
                  refine wpAnyIn_take (i := 8) (v := ?_) rfl rfl (by kernel_rfl) (by kernel_rfl) (by kernel_rfl) (fun _ _ _ h => by cases h.1) ⟨Or.inl ⟨by rfl, ?hy⟩, fun _ => rfl⟩ ?_
                  case hy => (intro w; go_simp; try with_reducible rfl)
                  refine wpAnyIn_ready (rs := [10]) (by kernel_rfl) (by simp) ?_
                  refine AllReadyIn.cons rfl (fun K hK => ?_) ?_
                  · go_simp
                    refine ⟨trivial, (callsIn_wide.2 Cd).mono ?_⟩
                    rintro e W3 ⟨c, zs, rfl, hc, lz, oz, hpb, sz, hz⟩
                    have cr3 : W3.cell? ⟨gU, k + (m + 2), none⟩ = some (.int .u32 (r2 : Int)) := (hz.cell (k + (m + 2)) (.inr (Nat.le_refl _))).trans cr
                    have fr3 : W3.frozen? ⟨gU, k + (m + 2), none⟩ = false := (hz.frozen _).trans fr
                    have cv3 : W3.cell? ⟨N8, 0, none⟩ = _ := (World.cell?_of_block (a := ⟨N8, 0, none⟩) (hz.block N8 hN8U)).trans cv
                    have hrc : (r2 : Int) + (c : Int) = 4294967296 := by have := hpb.1; omega
                    refine hK _ _ ?_
                    clear hK K
                    refine wpAnyIn_take (i := 11) (v := ?_) rfl rfl (by kernel_rfl) (by kernel_rfl) (by kernel_rfl) (fun _ _ _ h => by cases h.1) ⟨Or.inl ⟨by rfl, ?hy⟩, fun _ => rfl⟩ ?_
                    case hy => (intro w; go_simp; try with_reducible rfl)
                    refine wpAnyIn_take (i := 12) (v := ?_) rfl rfl (by kernel_rfl) (by kernel_rfl) (by kernel_rfl) (fun _ _ _ h => by cases h.1) ⟨Or.inl ⟨by rfl, ?hy⟩, fun _ => rfl⟩ ?_
                    case hy => (intro w; go_simp; try with_reducible rfl)
                    refine wpAnyIn_ready (rs := [13]) (by kernel_rfl) (by simp) ?_
                    refine AllReadyIn.cons rfl (fun K hK => ?_) ?_
                    · go_simp
                      refine hK _ _ ?_
                      clear hK K
                      refine wpAnyIn_done (by kernel_rfl) ?_ _
                      exact ⟨rfl, c, zs, W3, hc, lz, oz, hpb, sz, hz, _, _, _, _, _, _, _, _, _, _, _, _, _, _, _, _, _, _, _, _, _, _, _, rfl, rfl⟩
                    exact AllReadyIn.nil
                  exact AllReadyIn.nil
                exact AllReadyIn.nil
              exact AllReadyIn.nil
            refine AllReadyIn.cons rfl (fun K hK => ?_) ?_
            · go_simp
              refine hK _ _ ?_
              clear hK K
              refine wpAnyIn_take (i := 7) (v := ?_) rfl rfl (by kernel_rfl) (by kernel_rfl) (by kernel_rfl) (fun _ _ _ h => by cases h.1) ⟨Or.inl ⟨by rfl, ?hy⟩, fun _ => rfl⟩ ?_
              case hy => (intro w; go_simp; try with_reducible rfl)
              refine wpAnyIn_take (i := 8) (v := ?_) rfl rfl (by kernel_rfl) (by kernel_rfl) (by kernel_rfl) (fun _ _ _ h => by cases h.1) ⟨Or.inl ⟨by rfl, ?hy⟩, fun _ => rfl⟩ ?_
              case hy => (intro w; go_simp; try with_reducible rfl)
              refine wpAnyIn_ready (rs := [4, 9]) (by kernel_rfl) (by simp) ?_
              refine AllReadyIn.cons rfl (fun K hK => ?_) ?_
              · go_simp
                refine hK _ _ ?_
                clear hK K
                refine wpAnyIn_ready (rs := [9]) (by kernel_rfl) (by simp) ?_
                refine AllReadyIn.cons rfl (fun K hK => ?_) ?_
                · go_simp
                  refine hK _ _ ?_
                  clear hK K
                  refine wpAnyIn_ready (rs := [10]) (by kernel_rfl) (by simp) ?_
                  refine AllReadyIn.cons rfl (fun K hK => ?_) ?_
                  · go_simp
                    refine ⟨trivial, (callsIn_wide.2 Cd).mono ?_⟩
                    rintro e W3 ⟨c, zs, rfl, hc, lz, oz, hpb, sz, hz⟩
                    have cr3 : W3.cell? ⟨gU, k + (m + 2), none⟩ = some (.int .u32 (r2 : Int)) := (hz.cell (k + (m + 2)) (.inr (Nat.le_refl _))).trans cr
                    have fr3 : W3.frozen? ⟨gU, k + (m + 2), none⟩ = false := (hz.frozen _).trans fr
                    have cv3 : W3.cell? ⟨N8, 0, none⟩ = _ := (World.cell?_of_block (a := ⟨N8, 0, none⟩) (hz.block N8 hN8U)).trans cv
                    have hrc : (r2 : Int) + (c : Int) = 4294967296 := by have := hpb.1; omega
                    refine hK _ _ ?_
                    clear hK K
                    refine wpAnyIn_take (i := 11) (v := ?_) rfl rfl (by kernel_rfl) (by kernel_rfl) (by kernel_rfl) (fun _ _ _ h => by cases h.1) ⟨Or.inl ⟨by rfl, ?hy⟩, fun _ => rfl⟩ ?_
                    case hy => (intro w; go_simp; try with_reducible rfl)
                    refine wpAnyIn_take (i := 12) (v := ?_) rfl rfl (by kernel_rfl) (by kernel_rfl) (by kernel_rfl) (fun _ _ _ h => by cases h.1) ⟨Or.inl ⟨by rfl, ?hy⟩, fun _ => rfl⟩ ?_
                    case hy => (intro w; go_simp; try with_reducible rfl)
                    refine wpAnyIn_ready (rs := [13]) (by kernel_rfl) (by simp) ?_
                    refine AllReadyIn.cons rfl (fun K hK => ?_) ?_
                    · go_simp
                      refine hK _ _ ?_
                      clear hK K
                      refine wpAnyIn_done (by kernel_rfl) ?_ _
                      exact ⟨rfl, c, zs, W3, hc, lz, oz, hpb, sz, hz, _, _, _, _, _, _, _, _, _, _, _, _, _, _, _, _, _, _, _, _, _, _, _, rfl, rfl⟩
                    exact AllReadyIn.nil
                  exact AllReadyIn.nil
                exact AllReadyIn.nil
              refine AllReadyIn.cons rfl (fun K hK => ?_) ?_
              · go_simp
                refine hK _ _ ?_
                clear hK K
                refine wpAnyIn_ready (rs := [4, 10]) (by kernel_rfl) (by simp) ?_
                refine AllReadyIn.cons rfl (fun K hK => ?_) ?_
                · go_simp
                  refine hK _ _ ?_
                  clear hK K
                  refine wpAnyIn_ready (rs := [10]) (by kernel_rfl) (by simp) ?_
                  refine AllReadyIn.cons rfl (fun K hK => ?_) ?_
                  · go_simp
                    refine ⟨trivial, (callsIn_wide.2 Cd).mono ?_⟩
                    rintro e W3 ⟨c, zs, rfl, hc, lz, oz, hpb, sz, hz⟩
                    have cr3 : W3.cell? ⟨gU, k + (m + 2), none⟩ = some (.int .u32 (r2 : Int)) := (hz.cell (k + (m + 2)) (.inr (Nat.le_refl _))).trans cr
                    have fr3 : W3.frozen? ⟨gU, k + (m + 2), none⟩ = false := (hz.frozen _).trans fr
                    have cv3 : W3.cell? ⟨N8, 0, none⟩ = _ := (World.cell?_of_block (a := ⟨N8, 0, none⟩) (hz.block N8 hN8U)).trans cv
                    have hrc : (r2 : Int) + (c : Int) = 4294967296 := by have := hpb.1; omega
                    refine hK _ _ ?_
                    clear hK K
                    refine wpAnyIn_take (i := 11) (v := ?_) rfl rfl (by kernel_rfl) (by kernel_rfl) (by kernel_rfl) (fun _ _ _ h => by cases h.1) ⟨Or.inl ⟨by rfl, ?hy⟩, fun _ => rfl⟩ ?_
                    case hy => (intro w; go_simp; try with_reducible rfl)
                    refine wpAnyIn_take (i := 12) (v := ?_) rfl rfl (by kernel_rfl) (by kernel_rfl) (by kernel_rfl) (fun _ _ _ h => by cases h.1) ⟨Or.inl ⟨by rfl, ?hy⟩, fun _ => rfl⟩ ?_
                    case hy => (intro w; go_simp; try with_reducible rfl)
                    refine wpAnyIn_ready (rs := [13]) (by kernel_rfl) (by simp) ?_
                    refine AllReadyIn.cons rfl (fun K hK => ?_) ?_
                    · go_simp
                      refine hK _ _ ?_
                      clear hK K
                      refine wpAnyIn_done (by kernel_rfl) ?_ _
                      exact ⟨rfl, c, zs, W3, hc, lz, oz, hpb, sz, hz, _, _, _, _, _, _, _, _, _, _, _, _, _, _, _, _, _, _, _, _, _, _, _, rfl, rfl⟩
                    exact AllReadyIn.nil
                  exact AllReadyIn.nil
                refine AllReadyIn.cons rfl (fun K hK => ?_) ?_
                · go_simp
                  refine ⟨trivial, (callsIn_wide.2 Cd).mono ?_⟩
                  rintro e W3 ⟨c, zs, rfl, hc, lz, oz, hpb, sz, hz⟩
                  have cr3 : W3.cell? ⟨gU, k + (m + 2), none⟩ = some (.int .u32 (r2 : Int)) := (hz.cell (k + (m + 2)) (.inr (Nat.le_refl _))).trans cr
                  have fr3 : W3.frozen? ⟨gU, k + (m + 2), none⟩ = false := (hz.frozen _).trans fr
                  have cv3 : W3.cell? ⟨N8, 0, none⟩ = _ := (World.cell?_of_block (a := ⟨N8, 0, none⟩) (hz.block N8 hN8U)).trans cv
                  have hrc : (r2 : Int) + (c : Int) = 4294967296 := by have := hpb.1; omega
                  refine hK _ _ ?_
                  clear hK K
                  refine wpAnyIn_ready (rs := [4]) (by kernel_rfl) (by simp) ?_
                  refine AllReadyIn.cons rfl (fun K hK => ?_) ?_
                  · go_simp
                    refine hK _ _ ?_
                    clear hK K
                    refine wpAnyIn_take (i := 11) (v := ?_) rfl rfl (by kernel_rfl) (by kernel_rfl) (by kernel_rfl) (fun _ _ _ h => by cases h.1) ⟨Or.inl ⟨by rfl, ?hy⟩, fun _ => rfl⟩ ?_
                    case hy => (intro w; go_simp; try with_reducible rfl)
                    refine wpAnyIn_take (i := 12) (v := ?_) rfl rfl (by kernel_rfl) (by kernel_rfl) (by kernel_rfl) (fun _ _ _ h => by cases h.1) ⟨Or.inl ⟨by rfl, ?hy⟩, fun _ => rfl⟩ ?_
                    case hy => (intro w; go_simp; try with_reducible rfl)
                    refine wpAnyIn_ready (rs := [13]) (by kernel_rfl) (by simp) ?_
                    refine AllReadyIn.cons rfl (fun K hK => ?_) ?_
                    · go_simp
                      refine hK _ _ ?_
                      clear hK K
                      refine wpAnyIn_done (by kernel_rfl) ?_ _
                      exact ⟨rfl, c, zs, W3, hc, lz, oz, hpb, sz, hz, _, _, _, _, _, _, _, _, _, _, _, _, _, _, _, _, _, _, _, _, _, _, _, rfl, rfl⟩
                    exact AllReadyIn.nil
                  exact AllReadyIn.nil
                exact AllReadyIn.nil
              exact AllReadyIn.nil
            refine AllReadyIn.cons rfl (fun K hK => ?_) ?_
            · go_simp
              refine hK _ _ ?_
              clear hK K
              refine wpAnyIn_ready (rs := [4, 6]) (by kernel_rfl) (by simp) ?_
              refine AllReadyIn.cons rfl (fun K hK => ?_) ?_
              · go_simp
                refine hK _ _ ?_
                clear hK K
                refine wpAnyIn_ready (rs := [6]) (by kernel_rfl) (by simp) ?_
                refine AllReadyIn.cons rfl (fun K hK => ?_) ?_
                · go_simp
                  refine hK _ _ ?_
                  clear hK K
                  refine wpAnyIn_take (i := 7) (v := ?_) rfl rfl (by kernel_rfl) (by kernel_rfl) (by kernel_rfl) (fun _ _ _ h => by cases h.1) ⟨Or.inl ⟨by rfl, ?hy⟩, fun _ => rfl⟩ ?_
                  case hy => (intro w; go_simp; try with_reducible rfl)
                  refine wpAnyIn_take (i := 8) (v := ?_) rfl rfl (by kernel_rfl) (by kernel_rfl) (by kernel_rfl) (fun _ _ _ h => by cases h.1) ⟨Or.inl ⟨by rfl, ?hy⟩, fun _ => rfl⟩ ?_
                  case hy => (intro w; go_simp; try with_reducible rfl)
                  refine wpAnyIn_ready (rs := [10]) (by kernel_rfl) (by simp) ?_
                  refine AllReadyIn.cons rfl (fun K hK => ?_) ?_
                  · go_simp
                    refine ⟨trivial, (callsIn_wide.2 Cd).mono ?_⟩
                    rintro e W3 ⟨c, zs, rfl, hc, lz, oz, hpb, sz, hz⟩
                    have cr3 : W3.cell? ⟨gU, k + (m + 2), none⟩ = some (.int .u32 (r2 : Int)) := (hz.cell (k + (m + 2)) (.inr (Nat.le_refl _))).trans cr
                    have fr3 : W3.frozen? ⟨gU, k + (m + 2), none⟩ = false := (hz.frozen _).trans fr
                    have cv3 : W3.cell? ⟨N8, 0, none⟩ = _ := (World.cell?_of_block (a := ⟨N8, 0, none⟩) (hz.block N8 hN8U)).trans cv
                    have hrc : (r2 : Int) + (c : Int) = 4294967296 := by have := hpb.1; omega
                    refine hK _ _ ?_
                    clear hK K
                    refine wpAnyIn_take (i := 11) (v := ?_) rfl rfl (by kernel_rfl) (by kernel_rfl) (by kernel_rfl) (fun _ _ _ h => by cases h.1) ⟨Or.inl ⟨by rfl, ?hy⟩, fun _ => rfl⟩ ?_
                    case hy => (intro w; go_simp; try with_reducible rfl)
                    refine wpAnyIn_take (i := 12) (v := ?_) rfl rfl (by kernel_rfl) (by kernel_rfl) (by kernel_rfl) (fun _ _ _ h => by cases h.1) ⟨Or.inl ⟨by rfl, ?hy⟩, fun _ => rfl⟩ ?_
                    case hy => (intro w; go_simp; try with_reducible rfl)
                    refine wpAnyIn_ready (rs := [13]) (by kernel_rfl) (by simp) ?_
                    refine AllReadyIn.cons rfl (fun K hK => ?_) ?_
                    · go_simp
                      refine hK _ _ ?_
                      clear hK K
                      refine wpAnyIn_done (by kernel_rfl) ?_ _
                      exact ⟨rfl, c, zs, W3, hc, lz, oz, hpb, sz, hz, _, _, _, _, _, _, _, _, _, _, _, _, _, _, _, _, _, _, _, _, _, _, _, rfl, rfl⟩
                    exact AllReadyIn.nil
                  exact AllReadyIn.nil
                exact AllReadyIn.nil
              refine AllReadyIn.cons rfl (fun K hK => ?_) ?_
              · go_simp
                refine hK _ _ ?_
                clear hK K
                refine wpAnyIn_take (i := 7) (v := ?_) rfl rfl (by kernel_rfl) (by kernel_rfl) (by kernel_rfl) (fun _ _ _ h => by cases h.1) ⟨Or.inl ⟨by rfl, ?hy⟩, fun _ => rfl⟩ ?_
                case hy => (intro w; go_simp; try with_reducible rfl)
                refine wpAnyIn_take (i := 8) (v := ?_) rfl rfl (by kernel_rfl) (by kernel_rfl) (by kernel_rfl) (fun _ _ _ h => by cases h.1) ⟨Or.inl ⟨by rfl, ?hy⟩, fun _ => rfl⟩ ?_
                case hy => (intro w; go_simp; try with_reducible rfl)
                refine wpAnyIn_ready (rs := [4, 10]) (by kernel_rfl) (by simp) ?_
                refine AllReadyIn.cons rfl (fun K hK => ?_) ?_
                · go_simp
                  refine hK _ _ ?_
                  clear hK K
                  refine wpAnyIn_ready (rs := [10]) (by kernel_rfl) (by simp) ?_
                  refine AllReadyIn.cons rfl (fun K hK => ?_) ?_
                  · go_simp
                    refine ⟨trivial, (callsIn_wide.2 Cd).mono ?_⟩
                    rintro e W3 ⟨c, zs, rfl, hc, lz, oz, hpb, sz, hz⟩
                    have cr3 : W3.cell? ⟨gU, k + (m + 2), none⟩ = some (.int .u32 (r2 : Int)) := (hz.cell (k + (m + 2)) (.inr (Nat.le_refl _))).trans cr
                    have fr3 : W3.frozen? ⟨gU, k + (m + 2), none⟩ = false := (hz.frozen _).trans fr
                    have cv3 : W3.cell? ⟨N8, 0, none⟩ = _ := (World.cell?_of_block (a := ⟨N8, 0, none⟩) (hz.block N8 hN8U)).trans cv
                    have hrc : (r2 : Int) + (c : Int) = 4294967296 := by have := hpb.1; omega
                    refine hK _ _ ?_
                    clear hK K
                    refine wpAnyIn_take (i := 11) (v := ?_) rfl rfl (by kernel_rfl) (by kernel_rfl) (by kernel_rfl) (fun _ _ _ h => by cases h.1) ⟨Or.inl ⟨by rfl, ?hy⟩, fun _ => rfl⟩ ?_
                    case hy => (intro w; go_simp; try with_reducible rfl)
                    refine wpAnyIn_take (i := 12) (v := ?_) rfl rfl (by kernel_rfl) (by kernel_rfl) (by kernel_rfl) (fun _ _ _ h => by cases h.1) ⟨Or.inl ⟨by rfl, ?hy⟩, fun _ => rfl⟩ ?_
                    case hy => (intro w; go_simp; try with_reducible rfl)
                    refine wpAnyIn_ready (rs := [13]) (by kernel_rfl) (by simp) ?_
                    refine AllReadyIn.cons rfl (fun K hK => ?_) ?_
                    · go_simp
                      refine hK _ _ ?_
                      clear hK K
                      refine wpAnyIn_done (by kernel_rfl) ?_ _
                      exact ⟨rfl, c, zs, W3, hc, lz, oz, hpb, sz, hz, _, _, _, _, _, _, _, _, _, _, _, _, _, _, _, _, _, _, _, _, _, _, _, rfl, rfl⟩
                    exact AllReadyIn.nil
                  exact AllReadyIn.nil
                refine AllReadyIn.cons rfl (fun K hK => ?_) ?_
                · go_simp
                  refine ⟨trivial, (callsIn_wide.2 Cd).mono ?_⟩
                  rintro e W3 ⟨c, zs, rfl, hc, lz, oz, hpb, sz, hz⟩
                  have cr3 : W3.cell? ⟨gU, k + (m + 2), none⟩ = some (.int .u32 (r2 : Int)) := (hz.cell (k + (m + 2)) (.inr (Nat.le_refl _))).trans cr
                  have fr3 : W3.frozen? ⟨gU, k + (m + 2), none⟩ = false := (hz.frozen _).trans fr
                  have cv3 : W3.cell? ⟨N8, 0, none⟩ = _ := (World.cell?_of_block (a := ⟨N8, 0, none⟩) (hz.block N8 hN8U)).trans cv
                  have hrc : (r2 : Int) + (c : Int) = 4294967296 := by have := hpb.1; omega
                  refine hK _ _ ?_
                  clear hK K
                  refine wpAnyIn_ready (rs := [4]) (by kernel_rfl) (by simp) ?_
                  refine AllReadyIn.cons rfl (fun K hK => ?_) ?_
                  · go_simp
                    refine hK _ _ ?_
                    clear hK K
                    refine wpAnyIn_take (i := 11) (v := ?_) rfl rfl (by kernel_rfl) (by kernel_rfl) (by kernel_rfl) (fun _ _ _ h => by cases h.1) ⟨Or.inl ⟨by rfl, ?hy⟩, fun _ => rfl⟩ ?_
                    case hy => (intro w; go_simp; try with_reducible rfl)
                    refine wpAnyIn_take (i := 12) (v := ?_) rfl rfl (by kernel_rfl) (by kernel_rfl) (by kernel_rfl) (fun _ _ _ h => by cases h.1) ⟨Or.inl ⟨by rfl, ?hy⟩, fun _ => rfl⟩ ?_
                    case hy => (intro w; go_simp; try with_reducible rfl)
                    refine wpAnyIn_ready (rs := [13]) (by kernel_rfl) (by simp) ?_
                    refine AllReadyIn.cons rfl (fun K hK => ?_) ?_
                    · go_simp
                      refine hK _ _ ?_
                      clear hK K
                      refine wpAnyIn_done (by kernel_rfl) ?_ _
                      exact ⟨rfl, c, zs, W3, hc, lz, oz, hpb, sz, hz, _, _, _, _, _, _, _, _, _, _, _, _, _, _, _, _, _, _, _, _, _, _, _, rfl, rfl⟩
                    exact AllReadyIn.nil
                  exact AllReadyIn.nil
                exact AllReadyIn.nil
              exact AllReadyIn.nil
            exact AllReadyIn.nil
          refine AllReadyIn.cons rfl (fun K hK => ?_) ?_
          · go_simp
            refine hK _ _ ?_
            clear hK K
            refine wpAnyIn_take (i := 7) (v := ?_) rfl rfl (by kernel_rfl) (by kernel_rfl) (by kernel_rfl) (fun _ _ _ h => by cases h.1) ⟨Or.inl ⟨by rfl, ?hy⟩, fun _ => rfl⟩ ?_
            case hy => (intro w; go_simp; try with_reducible rfl)
            refine wpAnyIn_take (i := 8) (v := ?_) rfl rfl (by kernel_rfl) (by kernel_rfl) (by kernel_rfl) (fun _ _ _ h => by cases h.1) ⟨Or.inl ⟨by rfl, ?hy⟩, fun _ => rfl⟩ ?_
            case hy => (intro w; go_simp; try with_reducible rfl)
            refine wpAnyIn_ready (rs := [1, 9]) (by kernel_rfl) (by simp) ?_
            refine AllReadyIn.cons rfl (fun K hK => ?_) ?_
            · go_simp
              refine hK _ _ ?_
              clear hK K
              refine wpAnyIn_take (i := 2) (v := ?_) rfl rfl (by kernel_rfl) (by kernel_rfl) (by kernel_rfl) (fun _ _ _ h => by cases h.1) ⟨Or.inl ⟨by rfl, ?hy⟩, fun _ => rfl⟩ ?_
              case hy => (intro w; go_simp; try with_reducible rfl)
              refine wpAnyIn_take (i := 3) (v := ?_) rfl rfl (by kernel_rfl) (by kernel_rfl) (by kernel_rfl) (fun _ _ _ h => by cases h.1) ⟨Or.inl ⟨by rfl, ?hy⟩, fun _ => rfl⟩ ?_
              case hy => (intro w; go_simp; try with_reducible rfl)
              refine wpAnyIn_ready (rs := [4, 9]) (by kernel_rfl) (by simp) ?_
              refine AllReadyIn.cons rfl (fun K hK => ?_) ?_
              · go_simp
                refine hK _ _ ?_
                clear hK K
                refine wpAnyIn_ready (rs := [9]) (by kernel_rfl) (by simp) ?_
                refine AllReadyIn.cons rfl (fun K hK => ?_) ?_
                · go_simp
                  refine hK _ _ ?_
                  clear hK K
                  refine wpAnyIn_ready (rs := [10]) (by kernel_rfl) (by simp) ?_
                  refine AllReadyIn.cons rfl (fun K hK => ?_) ?_
                  · go_simp
                    refine ⟨trivial, (callsIn_wide.2 Cd).mono ?_⟩
                    rintro e W3 ⟨c, zs, rfl, hc, lz, oz, hpb, sz, hz⟩
                    have cr3 : W3.cell? ⟨gU, k + (m + 2), none⟩ = some (.int .u32 (r2 : Int)) := (hz.cell (k + (m + 2)) (.inr (Nat.le_refl _))).trans cr
                    have fr3 : W3.frozen? ⟨gU, k + (m + 2), none⟩ = false := (hz.frozen _).trans fr
                    have cv3 : W3.cell? ⟨N8, 0, none⟩ = _ := (World.cell?_of_block (a := ⟨N8, 0, none⟩) (hz.block N8 hN8U)).trans cv
                    have hrc : (r2 : Int) + (c : Int) = 4294967296 := by have := hpb.1; omega
                    refine hK _ _ ?_
                    clear hK K
                    refine wpAnyIn_take (i := 11) (v := ?_) rfl rfl (by kernel_rfl) (by kernel_rfl) (by kernel_rfl) (fun _ _ _ h => by cases h.1) ⟨Or.inl ⟨by rfl, ?hy⟩, fun _ => rfl⟩ ?_
                    case hy => (intro w; go_simp; try with_reducible rfl)
                    refine wpAnyIn_take (i := 12) (v := ?_) rfl rfl (by kernel_rfl) (by kernel_rfl) (by kernel_rfl) (fun _ _ _ h => by cases h.1) ⟨Or.inl ⟨by rfl, ?hy⟩, fun _ => rfl⟩ ?_
                    case hy => (intro w; go_simp; try with_reducible rfl)
                    refine wpAnyIn_ready (rs := [13]) (by kernel_rfl) (by simp) ?_
                    refine AllReadyIn.cons rfl (fun K hK => ?_) ?_
                    · go_simp
                      refine hK _ _ ?_
                      clear hK K
                      refine wpAnyIn_done (by kernel_rfl) ?_ _
                      exact ⟨rfl, c, zs, W3, hc, lz, oz, hpb, sz, hz, _, _, _, _, _, _, _, _, _, _, _, _, _, _, _, _, _, _, _, _, _, _, _, rfl, rfl⟩
                    exact AllReadyIn.nil
                  exact AllReadyIn.nil
                exact AllReadyIn.nil
              refine AllReadyIn.cons rfl (fun K hK => ?_) ?_
              · go_simp
                refine hK _ _ ?_
                clear hK K
                refine wpAnyIn_ready (rs := [4, 10]) (by kernel_rfl) (by simp) ?_
                refine AllReadyIn.cons rfl (fun K hK => ?_) ?_
                · go_simp
                  refine hK _ _ ?_
                  clear hK K
                  refine wpAnyIn_ready (rs := [10]) (by kernel_rfl) (by simp) ?_
                  refine AllReadyIn.cons rfl (fun K hK => ?_) ?_
                  · go_simp
                    refine ⟨trivial, (callsIn_wide.2 Cd).mono ?_⟩
                    rintro e W3 ⟨c, zs, rfl, hc, lz, oz, hpb, sz, hz⟩
                    have cr3 : W3.cell? ⟨gU, k + (m + 2), none⟩ = some (.int .u32 (r2 : Int)) := (hz.cell (k + (m + 2)) (.inr (Nat.le_refl _))).trans cr
                    have fr3 : W3.frozen? ⟨gU, k + (m + 2), none⟩ = false := (hz.frozen _).trans fr
                    have cv3 : W3.cell? ⟨N8, 0, none⟩ = _ := (World.cell?_of_block (a := ⟨N8, 0, none⟩) (hz.block N8 hN8U)).trans cv
                    have hrc : (r2 : Int) + (c : Int) = 4294967296 := by have := hpb.1; omega
                    refine hK _ _ ?_
                    clear hK K
                    refine wpAnyIn_take (i := 11) (v := ?_) rfl rfl (by kernel_rfl) (by kernel_rfl) (by kernel_rfl) (fun _ _ _ h => by cases h.1) ⟨Or.inl ⟨by rfl, ?hy⟩, fun _ => rfl⟩ ?_
                    case hy => (intro w; go_simp; try with_reducible rfl)
                    refine wpAnyIn_take (i := 12) (v := ?_) rfl rfl (by kernel_rfl) (by kernel_rfl) (by kernel_rfl) (fun _ _ _ h => by cases h.1) ⟨Or.inl ⟨by rfl, ?hy⟩, fun _ => rfl⟩ ?_
                    case hy => (intro w; go_simp; try with_reducible rfl)
                    refine wpAnyIn_ready (rs := [13]) (by kernel_rfl) (by simp) ?_
                    refine AllReadyIn.cons rfl (fun K hK => ?_) ?_
                    · go_simp
                      refine hK _ _ ?_
                      clear hK K
                      refine wpAnyIn_done (by kernel_rfl) ?_ _
                      exact ⟨rfl, c, zs, W3, hc, lz, oz, hpb, sz, hz, _, _, _, _, _, _, _, _, _, _, _, _, _, _, _, _, _, _, _, _, _, _, _, rfl, rfl⟩
                    exact AllReadyIn.nil
                  exact AllReadyIn.nil
                refine AllReadyIn.cons rfl (fun K hK => ?_) ?_
                · go_simp
                  refine ⟨trivial, (callsIn_wide.2 Cd).mono ?_⟩
                  rintro e W3 ⟨c, zs, rfl, hc, lz, oz, hpb, sz, hz⟩
                  have cr3 : W3.cell? ⟨gU, k + (m + 2), none⟩ = some (.int .u32 (r2 : Int)) := (hz.cell (k + (m + 2)) (.inr (Nat.le_refl _))).trans cr
                  have fr3 : W3.frozen? ⟨gU, k + (m + 2), none⟩ = false := (hz.frozen _).trans fr
                  have cv3 : W3.cell? ⟨N8, 0, none⟩ = _ := (World.cell?_of_block (a := ⟨N8, 0, none⟩) (hz.block N8 hN8U)).trans cv
                  have hrc : (r2 : Int) + (c : Int) = 4294967296 := by have := hpb.1; omega
                  refine hK _ _ ?_
                  clear hK K
                  refine wpAnyIn_ready (rs := [4]) (by kernel_rfl) (by simp) ?_
                  refine AllReadyIn.cons rfl (fun K hK => ?_) ?_
                  · go_simp
                    refine hK _ _ ?_
                    clear hK K
                    refine wpAnyIn_take (i := 11) (v := ?_) rfl rfl (by kernel_rfl) (by kernel_rfl) (by kernel_rfl) (fun _ _ _ h => by cases h.1) ⟨Or.inl ⟨by rfl, ?hy⟩, fun _ => rfl⟩ ?_
                    case hy => (intro w; go_simp; try with_reducible rfl)
                    refine wpAnyIn_take (i := 12) (v := ?_) rfl rfl (by kernel_rfl) (by kernel_rfl) (by kernel_rfl) (fun _ _ _ h => by cases h.1) ⟨Or.inl ⟨by rfl, ?hy⟩, fun _ => rfl⟩ ?_
                    case hy => (intro w; go_simp; try with_reducible rfl)
                    refine wpAnyIn_ready (rs := [13]) (by kernel_rfl) (by simp) ?_
                    refine AllReadyIn.cons rfl (fun K hK => ?_) ?_
                    · go_simp
                      refine hK _ _ ?_
                      clear hK K
                      refine wpAnyIn_done (by kernel_rfl) ?_ _
                      exact ⟨rfl, c, zs, W3, hc, lz, oz, hpb, sz, hz, _, _, _, _, _, _, _, _, _, _, _, _, _, _, _, _, _, _, _, _, _, _, _, rfl, rfl⟩
                    exact AllReadyIn.nil
                  exact AllReadyIn.nil
                exact AllReadyIn.nil
              exact AllReadyIn.nil
            refine AllReadyIn.cons rfl (fun K hK => ?_) ?_
            · go_simp
              refine hK _ _ ?_
              clear hK K
              refine wpAnyIn_ready (rs := [1, 10]) (by kernel_rfl) (by simp) ?_
              refine AllReadyIn.cons rfl (fun K hK => ?_) ?_
              · go_simp
                refine hK _ _ ?_
                clear hK K
                refine wpAnyIn_take (i := 2) (v := ?_) rfl rfl (by kernel_rfl) (by kernel_rfl) (by kernel_rfl) (fun _ _ _ h => by cases h.1) ⟨Or.inl ⟨by rfl, ?hy⟩, fun _ => rfl⟩ ?_
                case hy => (intro w; go_simp; try with_reducible rfl)
                refine wpAnyIn_take (i := 3) (v := ?_) rfl rfl (by kernel_rfl) (by kernel_rfl) (by kernel_rfl) (fun _ _ _ h => by cases h.1) ⟨Or.inl ⟨by rfl, ?hy⟩, fun _ => rfl⟩ ?_
                case hy => (intro w; go_simp; try with_reducible rfl)
                refine wpAnyIn_ready (rs := [4, 10]) (by kernel_rfl) (by simp) ?_
                refine AllReadyIn.cons rfl (fun K hK => ?_) ?_
                · go_simp
                  refine hK _ _ ?_
                  clear hK K
                  refine wpAnyIn_ready (rs := [10]) (by kernel_rfl) (by simp) ?_
                  refine AllReadyIn.cons rfl (fun K hK => ?_) ?_
                  · go_simp
                    refine ⟨trivial, (callsIn_wide.2 Cd).mono ?_⟩
                    rintro e W3 ⟨c, zs, rfl, hc, lz, oz, hpb, sz, hz⟩
                    have cr3 : W3.cell? ⟨gU, k + (m + 2), none⟩ = some (.int .u32 (r2 : Int)) := (hz.cell (k + (m + 2)) (.inr (Nat.le_refl _))).trans cr
                    have fr3 : W3.frozen? ⟨gU, k + (m + 2), none⟩ = false := (hz.frozen _).trans fr
                    have cv3 : W3.cell? ⟨N8, 0, none⟩ = _ := (World.cell?_of_block (a := ⟨N8, 0, none⟩) (hz.block N8 hN8U)).trans cv
                    have hrc : (r2 : Int) + (c : Int) = 4294967296 := by have := hpb.1; omega
                    refine hK _ _ ?_
                    clear hK K
                    refine wpAnyIn_take (i := 11) (v := ?_) rfl rfl (by kernel_rfl) (by kernel_rfl) (by kernel_rfl) (fun _ _ _ h => by cases h.1) ⟨Or.inl ⟨by rfl, ?hy⟩, fun _ => rfl⟩ ?_
                    case hy => (intro w; go_simp; try with_reducible rfl)
                    refine wpAnyIn_take (i := 12) (v := ?_) rfl rfl (by kernel_rfl) (by kernel_rfl) (by kernel_rfl) (fun _ _ _ h => by cases h.1) ⟨Or.inl ⟨by rfl, ?hy⟩, fun _ => rfl⟩ ?_
                    case hy => (intro w; go_simp; try with_reducible rfl)
                    refine wpAnyIn_ready (rs := [13]) (by kernel_rfl) (by simp) ?_
                    refine AllReadyIn.cons rfl (fun K hK => ?_) ?_
                    · go_simp
                      refine hK _ _ ?_
                      clear hK K
                      refine wpAnyIn_done (by kernel_rfl) ?_ _
                      exact ⟨rfl, c, zs, W3, hc, lz, oz, hpb, sz, hz, _, _, _, _, _, _, _, _, _, _, _, _, _, _, _, _, _, _, _, _, _, _, _, rfl, rfl⟩
                    exact AllReadyIn.nil
                  exact AllReadyIn.nil
                refine AllReadyIn.cons rfl (fun K hK => ?_) ?_
                · go_simp
                  refine ⟨trivial, (callsIn_wide.2 Cd).mono ?_⟩
                  rintro e W3 ⟨c, zs, rfl, hc, lz, oz, hpb, sz, hz⟩
                  have cr3 : W3.cell? ⟨gU, k + (m + 2), none⟩ = some (.int .u32 (r2 : Int)) := (hz.cell (k + (m + 2)) (.inr (Nat.le_refl _))).trans cr
                  have fr3 : W3.frozen? ⟨gU, k + (m + 2), none⟩ = false := (hz.frozen _).trans fr
                  have cv3 : W3.cell? ⟨N8, 0, none⟩ = _ := (World.cell?_of_block (a := ⟨N8, 0, none⟩) (hz.block N8 hN8U)).trans cv
                  have hrc : (r2 : Int) + (c : Int) = 4294967296 := by have := hpb.1; omega
                  refine hK _ _ ?_
                  clear hK K
                  refine wpAnyIn_ready (rs := [4]) (by kernel_rfl) (by simp) ?_
                  refine AllReadyIn.cons rfl (fun K hK => ?_) ?_
                  · go_simp
                    refine hK _ _ ?_
                    clear hK K
                    refine wpAnyIn_take (i := 11) (v := ?_) rfl rfl (by kernel_rfl) (by kernel_rfl) (by kernel_rfl) (fun _ _ _ h => by cases h.1) ⟨Or.inl ⟨by rfl, ?hy⟩, fun _ => rfl⟩ ?_
                    case hy => (intro w; go_simp; try with_reducible rfl)
                    refine wpAnyIn_take (i := 12) (v := ?_) rfl rfl (by kernel_rfl) (by kernel_rfl) (by kernel_rfl) (fun _ _ _ h => by cases h.1) ⟨Or.inl ⟨by rfl, ?hy⟩, fun _ => rfl⟩ ?_
                    case hy => (intro w; go_simp; try with_reducible rfl)
                    refine wpAnyIn_ready (rs := [13]) (by kernel_rfl) (by simp) ?_
                    refine AllReadyIn.cons rfl (fun K hK => ?_) ?_
                    · go_simp
                      refine hK _ _ ?_
                      clear hK K
                      refine wpAnyIn_done (by kernel_rfl) ?_ _
                      exact ⟨rfl, c, zs, W3, hc, lz, oz, hpb, sz, hz, _, _, _, _, _, _, _, _, _, _, _, _, _, _, _, _, _, _, _, _, _, _, _, rfl, rfl⟩
                    exact AllReadyIn.nil
                  exact AllReadyIn.nil
                exact AllReadyIn.nil
              refine AllReadyIn.cons rfl (fun K hK => ?_) ?_
              · go_simp
                refine ⟨trivial, (callsIn_wide.2 Cd).mono ?_⟩
                rintro e W3 ⟨c, zs, rfl, hc, lz, oz, hpb, sz, hz⟩
                have cr3 : W3.cell? ⟨gU, k + (m + 2), none⟩ = some (.int .u32 (r2 : Int)) := (hz.cell (k + (m + 2)) (.inr (Nat.le_refl _))).trans cr
                have fr3 : W3.frozen? ⟨gU, k + (m + 2), none⟩ = false := (hz.frozen _).trans fr
                have cv3 : W3.cell? ⟨N8, 0, none⟩ = _ := (World.cell?_of_block (a := ⟨N8, 0, none⟩) (hz.block N8 hN8U)).trans cv
                have hrc : (r2 : Int) + (c : Int) = 4294967296 := by have := hpb.1; omega
                refine hK _ _ ?_
                clear hK K
                refine wpAnyIn_ready (rs := [1]) (by kernel_rfl) (by simp) ?_
                refine AllReadyIn.cons rfl (fun K hK => ?_) ?_
                · go_simp
                  refine hK _ _ ?_
                  clear hK K
                  refine wpAnyIn_take (i := 2) (v := ?_) rfl rfl (by kernel_rfl) (by kernel_rfl) (by kernel_rfl) (fun _ _ _ h => by cases h.1) ⟨Or.inl ⟨by rfl, ?hy⟩, fun _ => rfl⟩ ?_
                  case hy => (intro w; go_simp; try with_reducible rfl)
                  refine wpAnyIn_take (i := 3) (v := ?_) rfl rfl (by kernel_rfl) (by kernel_rfl) (by kernel_rfl) (fun _ _ _ h => by cases h.1) ⟨Or.inl ⟨by rfl, ?hy⟩, fun _ => rfl⟩ ?_
                  case hy => (intro w; go_simp; try with_reducible rfl)
                  refine wpAnyIn_ready (rs := [4]) (by kernel_rfl) (by simp) ?_
                  refine AllReadyIn.cons rfl (fun K hK => ?_) ?_
                  · go_simp
                    refine hK _ _ ?_
                    clear hK K
                    refine wpAnyIn_take (i := 11) (v := ?_) rfl rfl (by kernel_rfl) (by kernel_rfl) (by kernel_rfl) (fun _ _ _ h => by cases h.1) ⟨Or.inl ⟨by rfl, ?hy⟩, fun _ => rfl⟩ ?_
                    case hy => (intro w; go_simp; try with_reducible rfl)
                    refine wpAnyIn_take (i := 12) (v := ?_) rfl rfl (by kernel_rfl) (by kernel_rfl) (by kernel_rfl) (fun _ _ _ h => by cases h.1) ⟨Or.inl ⟨by rfl, ?hy⟩, fun _ => rfl⟩ ?_
                    case hy => (intro w; go_simp; try with_reducible rfl)
                    refine wpAnyIn_ready (rs := [13]) (by kernel_rfl) (by simp) ?_
                    refine AllReadyIn.cons rfl (fun K hK => ?_) ?_
                    · go_simp
                      refine hK _ _ ?_
                      clear hK K
                      refine wpAnyIn_done (by kernel_rfl) ?_ _
                      exact ⟨rfl, c, zs, W3, hc, lz, oz, hpb, sz, hz, _, _, _, _, _, _, _, _, _, _, _, _, _, _, _, _, _, _, _, _, _, _, _, rfl, rfl⟩
                    exact AllReadyIn.nil
                  exact AllReadyIn.nil
                exact AllReadyIn.nil
              exact AllReadyIn.nil
            exact AllReadyIn.nil
          refine AllReadyIn.cons rfl (fun K hK => ?_) ?_
          · go_simp
            refine hK _ _ ?_
            clear hK K
            refine wpAnyIn_ready (rs := [1, 6]) (by kernel_rfl) (by simp) ?_
            refine AllReadyIn.cons rfl (fun K hK => ?_) ?_
            · go_simp
              refine hK _ _ ?_
              clear hK K
              refine wpAnyIn_take (i := 2) (v := ?_) rfl rfl (by kernel_rfl) (by kernel_rfl) (by kernel_rfl) (fun _ _ _ h => by cases h.1) ⟨Or.inl ⟨by rfl, ?hy⟩, fun _ => rfl⟩ ?_
              case hy => (intro w; go_simp; try with_reducible rfl)
              refine wpAnyIn_take (i := 3) (v := ?_) rfl rfl (by kernel_rfl) (by kernel_rfl) (by kernel_rfl) (fun _ _ _ h => by cases h.1) ⟨Or.inl ⟨by rfl, ?hy⟩, fun _ => rfl⟩ ?_
              case hy => (intro w; go_simp; try with_reducible rfl)
              refine wpAnyIn_ready (rs := [4, 6]) (by kernel_rfl) (by simp) ?_
              refine AllReadyIn.cons rfl (fun K hK => ?_) ?_
              · go_simp
                refine hK _ _ ?_
                clear hK K
                refine wpAnyIn_ready (rs := [6]) (by kernel_rfl) (by simp) ?_
                refine AllReadyIn.cons rfl (fun K hK => ?_) ?_
                · go_simp
                  refine hK _ _ ?_
                  clear hK K
                  refine wpAnyIn_take (i := 7) (v := ?_) rfl rfl (by kernel_rfl) (by kernel_rfl) (by kernel_rfl) (fun _ _ _ h => by cases h.1) ⟨Or.inl ⟨by rfl, ?hy⟩, fun _ => rfl⟩ ?_
                  case hy => (intro w; go_simp; try with_reducible rfl)
                  refine wpAnyIn_take (i := 8) (v := ?_) rfl rfl (by kernel_rfl) (by kernel_rfl) (by kernel_rfl) (fun _ _ _ h => by cases h.1) ⟨Or.inl ⟨by rfl, ?hy⟩, fun _ => rfl⟩ ?_
                  case hy => (intro w; go_simp; try with_reducible rfl)
                  refine wpAnyIn_ready (rs := [10]) (by kernel_rfl) (by simp) ?_
                  refine AllReadyIn.cons rfl (fun K hK => ?_) ?_
                  · go_simp
                    refine ⟨trivial, (callsIn_wide.2 Cd).mono ?_⟩
                    rintro e W3 ⟨c, zs, rfl, hc, lz, oz, hpb, sz, hz⟩
                    have cr3 : W3.cell? ⟨gU, k + (m + 2), none⟩ = some (.int .u32 (r2 : Int)) := (hz.cell (k + (m + 2)) (.inr (Nat.le_refl _))).trans cr
                    have fr3 : W3.frozen? ⟨gU, k + (m + 2), none⟩ = false := (hz.frozen _).trans fr
                    have cv3 : W3.cell? ⟨N8, 0, none⟩ = _ := (World.cell?_of_block (a := ⟨N8, 0, none⟩) (hz.block N8 hN8U)).trans cv
                    have hrc : (r2 : Int) + (c : Int) = 4294967296 := by have := hpb.1; omega
                    refine hK _ _ ?_
                    clear hK K
                    refine wpAnyIn_take (i := 11) (v := ?_) rfl rfl (by kernel_rfl) (by kernel_rfl) (by kernel_rfl) (fun _ _ _ h => by cases h.1) ⟨Or.inl ⟨by rfl, ?hy⟩, fun _ => rfl⟩ ?_
                    case hy => (intro w; go_simp; try with_reducible rfl)
                    refine wpAnyIn_take (i := 12) (v := ?_) rfl rfl (by kernel_rfl) (by kernel_rfl) (by kernel_rfl) (fun _ _ _ h => by cases h.1) ⟨Or.inl ⟨by rfl, ?hy⟩, fun _ => rfl⟩ ?_
                    case hy => (intro w; go_simp; try with_reducible rfl)
                    refine wpAnyIn_ready (rs := [13]) (by kernel_rfl) (by simp) ?_
                    refine AllReadyIn.cons rfl (fun K hK => ?_) ?_
                    · go_simp
                      refine hK _ _ ?_
                      clear hK K
                      refine wpAnyIn_done (by kernel_rfl) ?_ _
                      exact ⟨rfl, c, zs, W3, hc, lz, oz, hpb, sz, hz, _, _, _, _, _, _, _, _, _, _, _, _, _, _, _, _, _, _, _, _, _, _, _, rfl, rfl⟩
                    exact AllReadyIn.nil
                  exact AllReadyIn.nil
                exact AllReadyIn.nil
              refine AllReadyIn.cons rfl (fun K hK => ?_) ?_
              · go_simp
                refine hK _ _ ?_
                clear hK K
                refine wpAnyIn_take (i := 7) (v := ?_) rfl rfl (by kernel_rfl) (by kernel_rfl) (by kernel_rfl) (fun _ _ _ h => by cases h.1) ⟨Or.inl ⟨by rfl, ?hy⟩, fun _ => rfl⟩ ?_
                case hy => (intro w; go_simp; try with_reducible rfl)
                refine wpAnyIn_take (i := 8) (v := ?_) rfl rfl (by kernel_rfl) (by kernel_rfl) (by kernel_rfl) (fun _ _ _ h => by cases h.1) ⟨Or.inl ⟨by rfl, ?hy⟩, fun _ => rfl⟩ ?_
                case hy => (intro w; go_simp; try with_reducible rfl)
                refine wpAnyIn_ready (rs := [4, 10]) (by kernel_rfl) (by simp) ?_
                refine AllReadyIn.cons rfl (fun K hK => ?_) ?_
                · go_simp
                  refine hK _ _ ?_
                  clear hK K
                  refine wpAnyIn_ready (rs := [10]) (by kernel_rfl) (by simp) ?_
                  refine AllReadyIn.cons rfl (fun K hK => ?_) ?_
                  · go_simp
                    refine ⟨trivial, (callsIn_wide.2 Cd).mono ?_⟩
                    rintro e W3 ⟨c, zs, rfl, hc, lz, oz, hpb, sz, hz⟩
                    have cr3 : W3.cell? ⟨gU, k + (m + 2), none⟩ = some (.int .u32 (r2 : Int)) := (hz.cell (k + (m + 2)) (.inr (Nat.le_refl _))).trans cr
                    have fr3 : W3.frozen? ⟨gU, k + (m + 2), none⟩ = false := (hz.frozen _).trans fr
                    have cv3 : W3.cell? ⟨N8, 0, none⟩ = _ := (World.cell?_of_block (a := ⟨N8, 0, none⟩) (hz.block N8 hN8U)).trans cv
                    have hrc : (r2 : Int) + (c : Int) = 4294967296 := by have := hpb.1; omega
                    refine hK _ _ ?_
                    clear hK K
                    refine wpAnyIn_take (i := 11) (v := ?_) rfl rfl (by kernel_rfl) (by kernel_rfl) (by kernel_rfl) (fun _ _ _ h => by cases h.1) ⟨Or.inl ⟨by rfl, ?hy⟩, fun _ => rfl⟩ ?_
                    case hy => (intro w; go_simp; try with_reducible rfl)
                    refine wpAnyIn_take (i := 12) (v := ?_) rfl rfl (by kernel_rfl) (by kernel_rfl) (by kernel_rfl) (fun _ _ _ h => by cases h.1) ⟨Or.inl ⟨by rfl, ?hy⟩, fun _ => rfl⟩ ?_
                    case hy => (intro w; go_simp; try with_reducible rfl)
                    refine wpAnyIn_ready (rs := [13]) (by kernel_rfl) (by simp) ?_
                    refine AllReadyIn.cons rfl (fun K hK => ?_) ?_
                    · go_simp
                      refine hK _ _ ?_
                      clear hK K
                      refine wpAnyIn_done (by kernel_rfl) ?_ _
                      exact ⟨rfl, c, zs, W3, hc, lz, oz, hpb, sz, hz, _, _, _, _, _, _, _, _, _, _, _, _, _, _, _, _, _, _, _, _, _, _, _, rfl, rfl⟩
                    exact AllReadyIn.nil
                  exact AllReadyIn.nil
                refine AllReadyIn.cons rfl (fun K hK => ?_) ?_
                · go_simp
                  refine ⟨trivial, (callsIn_wide.2 Cd).mono ?_⟩
                  rintro e W3 ⟨c, zs, rfl, hc, lz, oz, hpb, sz, hz⟩
                  have cr3 : W3.cell? ⟨gU, k + (m + 2), none⟩ = some (.int .u32 (r2 : Int)) := (hz.cell (k + (m + 2)) (.inr (Nat.le_refl _))).trans cr
                  have fr3 : W3.frozen? ⟨gU, k + (m + 2), none⟩ = false := (hz.frozen _).trans fr
                  have cv3 : W3.cell? ⟨N8, 0, none⟩ = _ := (World.cell?_of_block (a := ⟨N8, 0, none⟩) (hz.block N8 hN8U)).trans cv
                  have hrc : (r2 : Int) + (c : Int) = 4294967296 := by have := hpb.1; omega
                  refine hK _ _ ?_
                  clear hK K
                  refine wpAnyIn_ready (rs := [4]) (by kernel_rfl) (by simp) ?_
                  refine AllReadyIn.cons rfl (fun K hK => ?_) ?_
                  · go_simp
                    refine hK _ _ ?_
                    clear hK K
                    refine wpAnyIn_take (i := 11) (v := ?_) rfl rfl (by kernel_rfl) (by kernel_rfl) (by kernel_rfl) (fun _ _ _ h => by cases h.1) ⟨Or.inl ⟨by rfl, ?hy⟩, fun _ => rfl⟩ ?_
                    case hy => (intro w; go_simp; try with_reducible rfl)
                    refine wpAnyIn_take (i := 12) (v := ?_) rfl rfl (by kernel_rfl) (by kernel_rfl) (by kernel_rfl) (fun _ _ _ h => by cases h.1) ⟨Or.inl ⟨by rfl, ?hy⟩, fun _ => rfl⟩ ?_
                    case hy => (intro w; go_simp; try with_reducible rfl)
                    refine wpAnyIn_ready (rs := [13]) (by kernel_rfl) (by simp) ?_
                    refine AllReadyIn.cons rfl (fun K hK => ?_) ?_
                    · go_simp
                      refine hK _ _ ?_
                      clear hK K
                      refine wpAnyIn_done (by kernel_rfl) ?_ _
                      exact ⟨rfl, c, zs, W3, hc, lz, oz, hpb, sz, hz, _, _, _, _, _, _, _, _, _, _, _, _, _, _, _, _, _, _, _, _, _, _, _, rfl, rfl⟩
                    exact AllReadyIn.nil
                  exact AllReadyIn.nil
                exact AllReadyIn.nil
              exact AllReadyIn.nil
            refine AllReadyIn.cons rfl (fun K hK => ?_) ?_
            · go_simp
              refine hK _ _ ?_
              clear hK K
              refine wpAnyIn_take (i := 7) (v := ?_) rfl rfl (by kernel_rfl) (by kernel_rfl) (by kernel_rfl) (fun _ _ _ h => by cases h.1) ⟨Or.inl ⟨by rfl, ?hy⟩, fun _ => rfl⟩ ?_
              case hy => (intro w; go_simp; try with_reducible rfl)
              refine wpAnyIn_take (i := 8) (v := ?_) rfl rfl (by kernel_rfl) (by kernel_rfl) (by kernel_rfl) (fun _ _ _ h => by cases h.1) ⟨Or.inl ⟨by rfl, ?hy⟩, fun _ => rfl⟩ ?_
              case hy => (intro w; go_simp; try with_reducible rfl)
              refine wpAnyIn_ready (rs := [1, 10]) (by kernel_rfl) (by simp) ?_
              refine AllReadyIn.cons rfl (fun K hK => ?_) ?_
              · go_simp
                refine hK _ _ ?_
                clear hK K
                refine wpAnyIn_take (i := 2) (v := ?_) rfl rfl (by kernel_rfl) (by kernel_rfl) (by kernel_rfl) (fun _ _ _ h => by cases h.1) ⟨Or.inl ⟨by rfl, ?hy⟩, fun _ => rfl⟩ ?_
                case hy => (intro w; go_simp; try with_reducible rfl)
                refine wpAnyIn_take (i := 3) (v := ?_) rfl rfl (by kernel_rfl) (by kernel_rfl) (by kernel_rfl) (fun _ _ _ h => by cases h.1) ⟨Or.inl ⟨by rfl, ?hy⟩, fun _ => rfl⟩ ?_
                case hy => (intro w; go_simp; try with_reducible rfl)
                refine wpAnyIn_ready (rs := [4, 10]) (by kernel_rfl) (by simp) ?_
                refine AllReadyIn.cons rfl (fun K hK => ?_) ?_
                · go_simp
                  refine hK _ _ ?_
                  clear hK K
                  refine wpAnyIn_ready (rs := [10]) (by kernel_rfl) (by simp) ?_
                  refine AllReadyIn.cons rfl (fun K hK => ?_) ?_
                  · go_simp
                    refine ⟨trivial, (callsIn_wide.2 Cd).mono ?_⟩
                    rintro e W3 ⟨c, zs, rfl, hc, lz, oz, hpb, sz, hz⟩
                    have cr3 : W3.cell? ⟨gU, k + (m + 2), none⟩ = some (.int .u32 (r2 : Int)) := (hz.cell (k + (m + 2)) (.inr (Nat.le_refl _))).trans cr
                    have fr3 : W3.frozen? ⟨gU, k + (m + 2), none⟩ = false := (hz.frozen _).trans fr
                    have cv3 : W3.cell? ⟨N8, 0, none⟩ = _ := (World.cell?_of_block (a := ⟨N8, 0, none⟩) (hz.block N8 hN8U)).trans cv
                    have hrc : (r2 : Int) + (c : Int) = 4294967296 := by have := hpb.1; omega
                    refine hK _ _ ?_
                    clear hK K
                    refine wpAnyIn_take (i := 11) (v := ?_) rfl rfl (by kernel_rfl) (by kernel_rfl) (by kernel_rfl) (fun _ _ _ h => by cases h.1) ⟨Or.inl ⟨by rfl, ?hy⟩, fun _ => rfl⟩ ?_
                    case hy => (intro w; go_simp; try with_reducible rfl)
                    refine wpAnyIn_take (i := 12) (v := ?_) rfl rfl (by kernel_rfl) (by kernel_rfl) (by kernel_rfl) (fun _ _ _ h => by cases h.1) ⟨Or.inl ⟨by rfl, ?hy⟩, fun _ => rfl⟩ ?_
                    case hy => (intro w; go_simp; try with_reducible rfl)
                    refine wpAnyIn_ready (rs := [13]) (by kernel_rfl) (by simp) ?_
                    refine AllReadyIn.cons rfl (fun K hK => ?_) ?_
                    · go_simp
                      refine hK _ _ ?_
                      clear hK K
                      refine wpAnyIn_done (by kernel_rfl) ?_ _
                      exact ⟨rfl, c, zs, W3, hc, lz, oz, hpb, sz, hz, _, _, _, _, _, _, _, _, _, _, _, _, _, _, _, _, _, _, _, _, _, _, _, rfl, rfl⟩
                    exact AllReadyIn.nil
                  exact AllReadyIn.nil
                refine AllReadyIn.cons rfl (fun K hK => ?_) ?_
                · go_simp
                  refine ⟨trivial, (callsIn_wide.2 Cd).mono ?_⟩
                  rintro e W3 ⟨c, zs, rfl, hc, lz, oz, hpb, sz, hz⟩
                  have cr3 : W3.cell? ⟨gU, k + (m + 2), none⟩ = some (.int .u32 (r2 : Int)) := (hz.cell (k + (m + 2)) (.inr (Nat.le_refl _))).trans cr
                  have fr3 : W3.frozen? ⟨gU, k + (m + 2), none⟩ = false := (hz.frozen _).trans fr
                  have cv3 : W3.cell? ⟨N8, 0, none⟩ = _ := (World.cell?_of_block (a := ⟨N8, 0, none⟩) (hz.block N8 hN8U)).trans cv
                  have hrc : (r2 : Int) + (c : Int) = 4294967296 := by have := hpb.1; omega
                  refine hK _ _ ?_
                  clear hK K
                  refine wpAnyIn_ready (rs := [4]) (by kernel_rfl) (by simp) ?_
                  refine AllReadyIn.cons rfl (fun K hK => ?_) ?_
                  · go_simp
                    refine hK _ _ ?_
                    clear hK K
                    refine wpAnyIn_take (i := 11) (v := ?_) rfl rfl (by kernel_rfl) (by kernel_rfl) (by kernel_rfl) (fun _ _ _ h => by cases h.1) ⟨Or.inl ⟨by rfl, ?hy⟩, fun _ => rfl⟩ ?_
                    case hy => (intro w; go_simp; try with_reducible rfl)
                    refine wpAnyIn_take (i := 12) (v := ?_) rfl rfl (by kernel_rfl) (by kernel_rfl) (by kernel_rfl) (fun _ _ _ h => by cases h.1) ⟨Or.inl ⟨by rfl, ?hy⟩, fun _ => rfl⟩ ?_
                    case hy => (intro w; go_simp; try with_reducible rfl)
                    refine wpAnyIn_ready (rs := [13]) (by kernel_rfl) (by simp) ?_
                    refine AllReadyIn.cons rfl (fun K hK => ?_) ?_
                    · go_simp
                      refine hK _ _ ?_
                      clear hK K
                      refine wpAnyIn_done (by kernel_rfl) ?_ _
                      exact ⟨rfl, c, zs, W3, hc, lz, oz, hpb, sz, hz, _, _, _, _, _, _, _, _, _, _, _, _, _, _, _, _, _, _, _, _, _, _, _, rfl, rfl⟩
                    exact AllReadyIn.nil
                  exact AllReadyIn.nil
                exact AllReadyIn.nil
              refine AllReadyIn.cons rfl (fun K hK => ?_) ?_
              · go_simp
                refine ⟨trivial, (callsIn_wide.2 Cd).mono ?_⟩
                rintro e W3 ⟨c, zs, rfl, hc, lz, oz, hpb, sz, hz⟩
                have cr3 : W3.cell? ⟨gU, k + (m + 2), none⟩ = some (.int .u32 (r2 : Int)) := (hz.cell (k + (m + 2)) (.inr (Nat.le_refl _))).trans cr
                have fr3 : W3.frozen? ⟨gU, k + (m + 2), none⟩ = false := (hz.frozen _).trans fr
                have cv3 : W3.cell? ⟨N8, 0, none⟩ = _ := (World.cell?_of_block (a := ⟨N8, 0, none⟩) (hz.block N8 hN8U)).trans cv
                have hrc : (r2 : Int) + (c : Int) = 4294967296 := by have := hpb.1; omega
                refine hK _ _ ?_
                clear hK K
                refine wpAnyIn_ready (rs := [1]) (by kernel_rfl) (by simp) ?_
                refine AllReadyIn.cons rfl (fun K hK => ?_) ?_
                · go_simp
                  refine hK _ _ ?_
                  clear hK K
                  refine wpAnyIn_take (i := 2) (v := ?_) rfl rfl (by kernel_rfl) (by kernel_rfl) (by kernel_rfl) (fun _ _ _ h => by cases h.1) ⟨Or.inl ⟨by rfl, ?hy⟩, fun _ => rfl⟩ ?_
                  case hy => (intro w; go_simp; try with_reducible rfl)
                  refine wpAnyIn_take (i := 3) (v := ?_) rfl rfl (by kernel_rfl) (by kernel_rfl) (by kernel_rfl) (fun _ _ _ h => by cases h.1) ⟨Or.inl ⟨by rfl, ?hy⟩, fun _ => rfl⟩ ?_
                  case hy => (intro w; go_simp; try with_reducible rfl)
                  refine wpAnyIn_ready (rs := [4]) (by kernel_rfl) (by simp) ?_
                  refine AllReadyIn.cons rfl (fun K hK => ?_) ?_
                  · go_simp
                    refine hK _ _ ?_
                    clear hK K
                    refine wpAnyIn_take (i := 11) (v := ?_) rfl rfl (by kernel_rfl) (by kernel_rfl) (by kernel_rfl) (fun _ _ _ h => by cases h.1) ⟨Or.inl ⟨by rfl, ?hy⟩, fun _ => rfl⟩ ?_
                    case hy => (intro w; go_simp; try with_reducible rfl)
                    refine wpAnyIn_take (i := 12) (v := ?_) rfl rfl (by kernel_rfl) (by kernel_rfl) (by kernel_rfl) (fun _ _ _ h => by cases h.1) ⟨Or.inl ⟨by rfl, ?hy⟩, fun _ => rfl⟩ ?_
                    case hy => (intro w; go_simp; try with_reducible rfl)
                    refine wpAnyIn_ready (rs := [13]) (by kernel_rfl) (by simp) ?_
                    refine AllReadyIn.cons rfl (fun K hK => ?_) ?_
                    · go_simp
                      refine hK _ _ ?_
                      clear hK K
                      refine wpAnyIn_done (by kernel_rfl) ?_ _
                      exact ⟨rfl, c, zs, W3, hc, lz, oz, hpb, sz, hz, _, _, _, _, _, _, _, _, _, _, _, _, _, _, _, _, _, _, _, _, _, _, _, rfl, rfl⟩
                    exact AllReadyIn.nil
                  exact AllReadyIn.nil
                exact AllReadyIn.nil
              exact AllReadyIn.nil
            exact AllReadyIn.nil
          exact AllReadyIn.nil
        rintro e a' W' ⟨rfl, c, zs, W3, hc, lz, oz, hpb, sz, hz, _, _, _, _, _, _, _, _, _, _, _, _, _, _, _, _, _, _, _, _, _, _, _, rfl, rfl⟩
        have lU1 := HPS.out.2.2.1
        have lR1 := HLR.out
        have D3 := D2.drewD.turn hO (RowTurn.of_only hz) sz lz (by simp; omega)
        have D4 : Dl w (W3.setCell ⟨gU, k + (m + 2), none⟩ (.int .u32 0)) _ _ _ _ _ _ _ _ _ _ _ _ := D3.setU hO (k + (m + 2)) 0 (by simp; omega)
        have bS3 : Boxed W3 Bs 22 (.slice (some ⟨gT, 0, none⟩) L L) := (hz.block Bs (by omega)).trans bS.drewB
        have bS4 : Boxed (W3.setCell ⟨gU, k + (m + 2), none⟩ (.int .u32 0)) Bs 22 (.slice (some ⟨gT, 0, none⟩) L L) := Boxed.kept bS3 (grownBy_setCell'' W3 _ _) (by simp; omega)
        have hk4 : Hid (KeepsFrom W6.heap.size W (W3.setCell ⟨gU, k + (m + 2), none⟩ (.int .u32 0))) := (((hk2.out.trans ((KeepsOthers.drew _).from _)).trans (keeps_turn (RowTurn.of_only hz) (by omega))).trans ((KeepsOthers.setCell _ _ _).from _))
        have epl := put_list (U := U) (rs := rs) (zs := zs) (k := k) (n := m + 2) (by omega) lR1 lz
        rw [epl] at D4
        clear epl D3 D2 bS bS3 hk2 cu cv ct hz sz Cd cr fr lU1 lR1
        have ct := D4.bt.cell
        have cT := D4.rt.cell k (by simp; omega)
        have fT := D4.rt.fr k
        have hkL : k < L := by omega
        have eg : (g' : Int) % 4294967296 = (g' : Int) := by omega
        have HPB : Hid (val zs + g' * val vs = val ps ∧ val zs < val vs) := hpb.2
        have hg' : g' < 4294967296 := by omega
        clear hpb hc
        obtain ⟨W4, hW4⟩ : ∃ W4, W3.setCell ⟨gU, k + (m + 2), none⟩ (.int .u32 0) = W4 := ⟨_, rfl⟩
        rw [hW4] at D4 ct cT fT bS4 hk4 ⊢
        clear hW4
        gi_wp2_with fail
        have vz : val (zs ++ [0]) = val zs := by rw [val_append]; simp [val]
        have st := long_step (X := val xs * 2 ^ s) (V := val ys * 2 ^ s) (k := k) (n := m + 3) (q := g') (qs := qs) (part' := zs ++ [0]) (by rw [HPS.out.2.2.1]; omega) HPS.out.1.symm (by simp [lz]) HXU.out oU rfl vz (by rw [← NV.out.1]; exact HPB.out.1) (by rw [← NV.out.1]; exact HPB.out.2) (by omega) HZ.out
        refine ⟨hk4.out.trans ((KeepsOthers.setCell _ _ _).from _), (k, U.take k ++ (zs ++ [0]) ++ U.drop (k + (m + 3)), g' :: qs), rfl, ⟨by omega, ?_, ?_, ?_, okw_cons.2 ⟨hg', oq⟩, st.1, st.2⟩, ?_, Boxed.kept bS4 (grownBy_setCell'' W4 _ _) (by simp; omega)⟩
        · have e1 := HPS.out.2.2.1
          simp [lz, e1]
          omega
        · exact okw_append.2 ⟨okw_append.2 ⟨okw_take oU k, okw_append.2 ⟨oz, okw_cons.2 ⟨by omega, okw_nil⟩⟩⟩, okw_drop oU _⟩
        · have e1 := HPS.out.2.2.2
          simp [e1]
          omega
        · have D5 := D4.setT hO k g'
          rw [repl_set] at D5
          exact D5
  case done =>
    rintro E ⟨k, U, qs⟩ W hE hk0 ⟨⟨_, hlU, oU, hq, oq, hX, hU⟩, D, bS⟩ hK
    simp only at hk0 hlU oU hq oq hX hU D
    subst hk0
    rw [show pw 0 = 1 from rfl] at hX hU
    rw [Nat.one_mul] at hU
    rw [Nat.mul_one] at hX
    have hend := long_end hX hU hy0
    simp only [List.replicate_zero, List.nil_append] at D
    have lq : qs.length = L := by omega
    have lt2 : (U.take (m + 2)).length = m + 2 := by simp; omega
    have vU : val (U.take (m + 2)) = val U := by
      have e := val_split U (m + 2) (by omega)
      have hz : val (U.drop (m + 2)) = 0 := by
        have : U.drop (m + 2) = List.replicate (U.length - (m + 2)) 0 := by
          refine ext_get (by simp) fun j hj => ?_
          rw [List.getElem?_drop, high_zero (m := m + 2) (Nat.lt_trans hU (by rw [← NV.out.1]; have := val_lt okv; rwa [HLv.out] at this)) _ (by omega), List.getElem?_replicate]
          split <;> rfl
        rw [this, val_replicate]
      rw [hz] at e
      simpa using e.symm
    have cu := D.bu.cell
    have cv := D.bv.cell
    have ct := D.bt.cell
    have ft := D.bt.frozen
    have sT : Sl .u32 W.drew (.slice (some ⟨gT, 0, none⟩) L L) qs := ⟨_, _, by rw [lq], by omega, fun _ => ⟨gT, 0, rfl, D.rt.seg⟩⟩
    have T1 := trim_any (some ⟨gT, 0, none⟩) L L qs W.drew sT (by omega)
    have sU : Sl .u32 W.drew (.slice (some ⟨gU, 0, none⟩) (m + 2) (nx + 1)) (U.take (m + 2)) := ⟨_, _, by rw [lt2], by omega, fun _ => ⟨gU, 0, rfl, D.su.take _⟩⟩
    have SD0 := shiftDown_any (some ⟨gU, 0, none⟩) (m + 2) (nx + 1) s (U.take (m + 2)) W.drew sU (by omega) (okw_take oU _) (by omega)
    rw [lt2, vU, hend.2] at SD0
    have SD : Calls Try.prog 47 #[.slice (some ⟨gU, 0, none⟩) (m + 2) (nx + 1), .int .i64 (s : Int)] W.drew fun e W9 => ∃ (g9 : Nat) (R9 : List Nat), e = .returned (.slice (some ⟨g9, 0, none⟩) (m + 2) (m + 2)) ∧ Hid (W.heap.size ≤ g9 ∧ R9.length = m + 2 ∧ okw R9 ∧ val R9 = val xs % val ys ∧ Seg .u32 W9 g9 0 R9 ∧ Free W9 g9 0 R9.length ∧ Below W.heap.size W.drew W9) ∧ Calls Try.prog 20 #[.slice (some ⟨g9, 0, none⟩) (m + 2) (m + 2)] W9 (fun e w' => e = .returned (.slice (some ⟨g9, 0, none⟩) (tl R9 R9.length) (m + 2)) ∧ w' = W9) ∧ W9.cell? ⟨w.heap.size, 0, none⟩ = some (.slice (some ⟨gT, 0, none⟩) L L) ∧ W9.frozen? ⟨w.heap.size, 0, none⟩ = false := by
      refine SD0.mono ?_
      rintro e W9 ⟨g9, R9, rfl, h1, h2, h3, h4, h5, h6, h7⟩
      have hlt := D.bt.lt
      exact ⟨g9, R9, rfl, (⟨h1, h2, h3, h4, h5, h6, h7⟩ : _ ∧ _ ∧ _ ∧ _ ∧ _ ∧ _ ∧ _), trim_any (some ⟨g9, 0, none⟩) (m + 2) (m + 2) R9 W9 ⟨_, _, by rw [h2], by omega, fun _ => ⟨g9, 0, rfl, h5⟩⟩ (by omega), (h7.cell (p := ⟨w.heap.size, 0, none⟩) hlt).trans ct, (h7.frozen (p := ⟨w.heap.size, 0, none⟩) hlt).trans ft⟩
    clear SD0
    have HEnd : Hid (val qs = val xs / val ys) := hend.1
    gi_wp2_with fail
    refine wpIn_mono (Q := fun e a' W' => e = .normal ∧ ∃ (g9 : Nat) (R9 : List Nat) (W9 : World), Hid (W.heap.size ≤ g9 ∧ R9.length = m + 2 ∧ okw R9 ∧ val R9 = val xs % val ys ∧ Seg .u32 W9 g9 0 R9 ∧ Free W9 g9 0 R9.length ∧ Below W.heap.size W.drew W9) ∧ a' = { tmps := #[.slice ax nx cx, .slice (some ⟨by_, offy, none⟩) (m + 2) cy, undef, undef, .pointer (some ⟨w.heap.size, 0, none⟩), .slice (some ⟨g9, 0, none⟩) (tl R9 R9.length) (m + 2), .int .i64 (s : Int), .pointer (some ⟨N7, 0, none⟩), .pointer (some ⟨N8, 0, none⟩), undef, undef, undef, .slice (some ⟨by_, offy, none⟩) (m + 2) cy, .slice (some ⟨by_, offy, none⟩) (m + 2) cy, .int .i64 ((m : Int) + 2), .int .i64 ((m : Int) + 2 - 1), .pointer (some ⟨by_, offy + (m + 1), none⟩), .int .u32 (t : Int), .int .i64 (s : Int), .slice ax nx cx, .int .i64 (s : Int), .slice (some ⟨gU, 0, none⟩) (nx + 1) (nx + 1), .slice (some ⟨by_, offy, none⟩) (m + 2) cy, .int .i64 (s : Int), .slice (some ⟨gV, 0, none⟩) (m + 2 + 1) (m + 2 + 1), .slice (some ⟨by_, offy, none⟩) (m + 2) cy, .int .i64 ((m : Int) + 2), .slice (some ⟨gV, 0, none⟩) (m + 2) (m + 2 + 1), .slice ax nx cx, .int .i64 (nx : Int), .slice (some ⟨by_, offy, none⟩) (m + 2) cy, .int .i64 ((m : Int) + 2), .int .i64 ((nx : Int) - ((m : Int) + 2)), .int .i64 ((nx : Int) - ((m : Int) + 2) + 1), .slice (some ⟨gT, 0, none⟩) L L, .slice (some ⟨gT, 0, none⟩) L L, .func (.func 40) #[] #[.pointer (some ⟨Bs, 0, none⟩)], undef, undef, undef, undef, undef, undef, undef, undef, undef, undef, undef, undef, undef, undef, undef, undef, undef, undef, undef, undef, undef, undef, undef, undef, undef, undef, undef, undef, undef, undef, undef, undef, undef, undef, undef, undef, undef, .slice (some ⟨gT, 0, none⟩) L L, .slice (some ⟨gT, 0, none⟩) (tl qs qs.length) L, .slice (some ⟨gU, 0, none⟩) (nx + 1) (nx + 1), .slice (some ⟨gV, 0, none⟩) (m + 2) (m + 2 + 1), .int .i64 ((m : Int) + 2), .slice (some ⟨gU, 0, none⟩) (m + 2) (nx + 1), .int .i64 (s : Int), .slice (some ⟨g9, 0, none⟩) (m + 2) (m + 2), .slice (some ⟨g9, 0, none⟩) (tl R9 R9.length) (m + 2)], defers := [{ target := Target.collected E, args := #[] }] } ∧ W' = W9.setCell ⟨w.heap.size, 0, none⟩ (.slice (some ⟨gT, 0, none⟩) (tl qs qs.length) L)) ?_ ?_
    · refine wpIn_region_any (by kernel_rfl) ?_
      change wpAnyIn _ _ _ _ _ _ _ _ _ (World.drew _)
      have u1 : (0 : Int) ≤ (m : Int) + 2 := by omega
      have u2 : ((m : Int) + 2).toNat = m + 2 := by omega
      have u3 : (m : Int) + 2 ≤ (nx : Int) + 1 := by omega
      have u4 : (m : Int) + 2 ≤ ((nx + 1 : Nat) : Int) := by omega
      clear hx hy ox oy HY HX ytop ty HTop HS HU0 oU0 vU0 hi hz0 hz1 hz2 D0 hfirst hend HEnd hX hU hq lq lt2 vU sT sU NV HLv oU oq hlU hK hE bS D hy0 okv HL hL1 hL0 hsz5 hsz6 hO o1 o2 o3 o4 o5 hby bx1 bx2 hs1
      refine wpAnyIn_take (i := 6) (v := ?_) rfl rfl (by kernel_rfl) (by kernel_rfl) (by kernel_rfl) (fun _ _ _ h => by cases h.1) ⟨Or.inl ⟨by rfl, ?hy⟩, fun _ => rfl⟩ ?_
      case hy => (intro w; go_simp; try with_reducible rfl)
      refine wpAnyIn_ready (rs := [0, 2, 3]) (by kernel_rfl) (by simp) ?_
      refine AllReadyIn.cons rfl (fun K hK => ?_) ?_
      · go_simp
        refine hK _ _ ?_
        clear hK K
        refine wpAnyIn_ready (rs := [1, 2, 3]) (by kernel_rfl) (by simp) ?_
        refine AllReadyIn.cons rfl (fun K hK => ?_) ?_
        · go_simp
          refine ⟨trivial, (callsIn_wide.2 T1).mono ?_⟩
          rintro e w1 ⟨rfl, rfl⟩
          refine hK _ _ ?_
          clear hK K
          refine wpAnyIn_ready (rs := [2, 3]) (by kernel_rfl) (by simp) ?_
          refine AllReadyIn.cons rfl (fun K hK => ?_) ?_
          · go_simp
            refine hK _ _ ?_
            clear hK K
            refine wpAnyIn_ready (rs := [3]) (by kernel_rfl) (by simp) ?_
            refine AllReadyIn.cons rfl (fun K hK => ?_) ?_
            · go_simp
              refine hK _ _ ?_
              clear hK K
              refine wpAnyIn_take (i := 4) (v := ?_) rfl rfl (by kernel_rfl) (by kernel_rfl) (by kernel_rfl) (fun _ _ _ h => by cases h.1) ⟨Or.inl ⟨by rfl, ?hy⟩, fun _ => rfl⟩ ?_
              case hy => (intro w; go_simp; try with_reducible rfl)
              refine wpAnyIn_take (i := 5) (v := ?_) rfl rfl (by kernel_rfl) (by kernel_rfl) (by kernel_rfl) (fun _ _ _ h => by cases h.1) ⟨Or.inl ⟨by rfl, ?hy⟩, fun _ => rfl⟩ ?_
              case hy => (intro w; go_simp; try with_reducible rfl)
              refine wpAnyIn_ready (rs := [7]) (by kernel_rfl) (by simp) ?_
              refine AllReadyIn.cons rfl (fun K hK => ?_) ?_
              · go_simp
                refine ⟨trivial, (callsIn_wide.2 SD).mono ?_⟩
                rintro e W9 ⟨g9, R9, rfl, hR9, T2, cB9, fB9⟩
                refine hK _ _ ?_
                clear hK K
                refine wpAnyIn_ready (rs := [8]) (by kernel_rfl) (by simp) ?_
                refine AllReadyIn.cons rfl (fun K hK => ?_) ?_
                · go_simp
                  refine ⟨trivial, (callsIn_wide.2 T2).mono ?_⟩
                  rintro e w1 ⟨rfl, rfl⟩
                  refine hK _ _ ?_
                  clear hK K
                  refine wpAnyIn_ready (rs := [9]) (by kernel_rfl) (by simp) ?_
                  refine AllReadyIn.cons rfl (fun K hK => ?_) ?_
                  · go_simp
                    refine hK _ _ ?_
                    clear hK K
                    refine wpAnyIn_take (i := 10) (v := ?_) rfl rfl (by kernel_rfl) (by kernel_rfl) (by kernel_rfl) (fun _ _ _ h => by cases h.1) ⟨Or.inl ⟨by rfl, ?hy⟩, fun _ => rfl⟩ ?_
                    case hy => (intro w; go_simp; try with_reducible rfl)
                    refine wpAnyIn_done (by kernel_rfl) ?_ _
                    exact ⟨rfl, g9, R9, _, hR9, rfl, rfl⟩
                  exact AllReadyIn.nil
                exact AllReadyIn.nil
              exact AllReadyIn.nil
            exact AllReadyIn.nil
          refine AllReadyIn.cons rfl (fun K hK => ?_) ?_
          · go_simp
            refine hK _ _ ?_
            clear hK K
            refine wpAnyIn_take (i := 4) (v := ?_) rfl rfl (by kernel_rfl) (by kernel_rfl) (by kernel_rfl) (fun _ _ _ h => by cases h.1) ⟨Or.inl ⟨by rfl, ?hy⟩, fun _ => rfl⟩ ?_
            case hy => (intro w; go_simp; try with_reducible rfl)
            refine wpAnyIn_ready (rs := [2]) (by kernel_rfl) (by simp) ?_
            refine AllReadyIn.cons rfl (fun K hK => ?_) ?_
            · go_simp
              refine hK _ _ ?_
              clear hK K
              refine wpAnyIn_take (i := 5) (v := ?_) rfl rfl (by kernel_rfl) (by kernel_rfl) (by kernel_rfl) (fun _ _ _ h => by cases h.1) ⟨Or.inl ⟨by rfl, ?hy⟩, fun _ => rfl⟩ ?_
              case hy => (intro w; go_simp; try with_reducible rfl)
              refine wpAnyIn_ready (rs := [7]) (by kernel_rfl) (by simp) ?_
              refine AllReadyIn.cons rfl (fun K hK => ?_) ?_
              · go_simp
                refine ⟨trivial, (callsIn_wide.2 SD).mono ?_⟩
                rintro e W9 ⟨g9, R9, rfl, hR9, T2, cB9, fB9⟩
                refine hK _ _ ?_
                clear hK K
                refine wpAnyIn_ready (rs := [8]) (by kernel_rfl) (by simp) ?_
                refine AllReadyIn.cons rfl (fun K hK => ?_) ?_
                · go_simp
                  refine ⟨trivial, (callsIn_wide.2 T2).mono ?_⟩
                  rintro e w1 ⟨rfl, rfl⟩
                  refine hK _ _ ?_
                  clear hK K
                  refine wpAnyIn_ready (rs := [9]) (by kernel_rfl) (by simp) ?_
                  refine AllReadyIn.cons rfl (fun K hK => ?_) ?_
                  · go_simp
                    refine hK _ _ ?_
                    clear hK K
                    refine wpAnyIn_take (i := 10) (v := ?_) rfl rfl (by kernel_rfl) (by kernel_rfl) (by kernel_rfl) (fun _ _ _ h => by cases h.1) ⟨Or.inl ⟨by rfl, ?hy⟩, fun _ => rfl⟩ ?_
                    case hy => (intro w; go_simp; try with_reducible rfl)
                    refine wpAnyIn_done (by kernel_rfl) ?_ _
                    exact ⟨rfl, g9, R9, _, hR9, rfl, rfl⟩
                  exact AllReadyIn.nil
                exact AllReadyIn.nil
              exact AllReadyIn.nil
            exact AllReadyIn.nil
          exact AllReadyIn.nil
        refine AllReadyIn.cons rfl (fun K hK => ?_) ?_
        · go_simp
          refine hK _ _ ?_
          clear hK K
          refine wpAnyIn_ready (rs := [1, 3]) (by kernel_rfl) (by simp) ?_
          refine AllReadyIn.cons rfl (fun K hK => ?_) ?_
          · go_simp
            refine ⟨trivial, (callsIn_wide.2 T1).mono ?_⟩
            rintro e w1 ⟨rfl, rfl⟩
            refine hK _ _ ?_
            clear hK K
            refine wpAnyIn_ready (rs := [3]) (by kernel_rfl) (by simp) ?_
            refine AllReadyIn.cons rfl (fun K hK => ?_) ?_
            · go_simp
              refine hK _ _ ?_
              clear hK K
              refine wpAnyIn_take (i := 4) (v := ?_) rfl rfl (by kernel_rfl) (by kernel_rfl) (by kernel_rfl) (fun _ _ _ h => by cases h.1) ⟨Or.inl ⟨by rfl, ?hy⟩, fun _ => rfl⟩ ?_
              case hy => (intro w; go_simp; try with_reducible rfl)
              refine wpAnyIn_take (i := 5) (v := ?_) rfl rfl (by kernel_rfl) (by kernel_rfl) (by kernel_rfl) (fun _ _ _ h => by cases h.1) ⟨Or.inl ⟨by rfl, ?hy⟩, fun _ => rfl⟩ ?_
              case hy => (intro w; go_simp; try with_reducible rfl)
              refine wpAnyIn_ready (rs := [7]) (by kernel_rfl) (by simp) ?_
              refine AllReadyIn.cons rfl (fun K hK => ?_) ?_
              · go_simp
                refine ⟨trivial, (callsIn_wide.2 SD).mono ?_⟩
                rintro e W9 ⟨g9, R9, rfl, hR9, T2, cB9, fB9⟩
                refine hK _ _ ?_
                clear hK K
                refine wpAnyIn_ready (rs := [8]) (by kernel_rfl) (by simp) ?_
                refine AllReadyIn.cons rfl (fun K hK => ?_) ?_
                · go_simp
                  refine ⟨trivial, (callsIn_wide.2 T2).mono ?_⟩
                  rintro e w1 ⟨rfl, rfl⟩
                  refine hK _ _ ?_
                  clear hK K
                  refine wpAnyIn_ready (rs := [9]) (by kernel_rfl) (by simp) ?_
                  refine AllReadyIn.cons rfl (fun K hK => ?_) ?_
                  · go_simp
                    refine hK _ _ ?_
                    clear hK K
                    refine wpAnyIn_take (i := 10) (v := ?_) rfl rfl (by kernel_rfl) (by kernel_rfl) (by kernel_rfl) (fun _ _ _ h => by cases h.1) ⟨Or.inl ⟨by rfl, ?hy⟩, fun _ => rfl⟩ ?_
                    case hy => (intro w; go_simp; try with_reducible rfl)
                    refine wpAnyIn_done (by kernel_rfl) ?_ _
                    exact ⟨rfl, g9, R9, _, hR9, rfl, rfl⟩
                  exact AllReadyIn.nil
                exact AllReadyIn.nil
              exact AllReadyIn.nil
            exact AllReadyIn.nil
          refine AllReadyIn.cons rfl (fun K hK => ?_) ?_
          · go_simp
            refine hK _ _ ?_
            clear hK K
            refine wpAnyIn_take (i := 4) (v := ?_) rfl rfl (by kernel_rfl) (by kernel_rfl) (by kernel_rfl) (fun _ _ _ h => by cases h.1) ⟨Or.inl ⟨by rfl, ?hy⟩, fun _ => rfl⟩ ?_
            case hy => (intro w; go_simp; try with_reducible rfl)
            refine wpAnyIn_take (i := 5) (v := ?_) rfl rfl (by kernel_rfl) (by kernel_rfl) (by kernel_rfl) (fun _ _ _ h => by cases h.1) ⟨Or.inl ⟨by rfl, ?hy⟩, fun _ => rfl⟩ ?_
            case hy => (intro w; go_simp; try with_reducible rfl)
            refine wpAnyIn_ready (rs := [1]) (by kernel_rfl) (by simp) ?_
            refine AllReadyIn.cons rfl (fun K hK => ?_) ?_
            · go_simp
              refine ⟨trivial, (callsIn_wide.2 T1).mono ?_⟩
              rintro e w1 ⟨rfl, rfl⟩
              refine hK _ _ ?_
              clear hK K
              refine wpAnyIn_ready (rs := [7]) (by kernel_rfl) (by simp) ?_
              refine AllReadyIn.cons rfl (fun K hK => ?_) ?_
              · go_simp
                refine ⟨trivial, (callsIn_wide.2 SD).mono ?_⟩
                rintro e W9 ⟨g9, R9, rfl, hR9, T2, cB9, fB9⟩
                refine hK _ _ ?_
                clear hK K
                refine wpAnyIn_ready (rs := [8]) (by kernel_rfl) (by simp) ?_
                refine AllReadyIn.cons rfl (fun K hK => ?_) ?_
                · go_simp
                  refine ⟨trivial, (callsIn_wide.2 T2).mono ?_⟩
                  rintro e w1 ⟨rfl, rfl⟩
                  refine hK _ _ ?_
                  clear hK K
                  refine wpAnyIn_ready (rs := [9]) (by kernel_rfl) (by simp) ?_
                  refine AllReadyIn.cons rfl (fun K hK => ?_) ?_
                  · go_simp
                    refine hK _ _ ?_
                    clear hK K
                    refine wpAnyIn_take (i := 10) (v := ?_) rfl rfl (by kernel_rfl) (by kernel_rfl) (by kernel_rfl) (fun _ _ _ h => by cases h.1) ⟨Or.inl ⟨by rfl, ?hy⟩, fun _ => rfl⟩ ?_
                    case hy => (intro w; go_simp; try with_reducible rfl)
                    refine wpAnyIn_done (by kernel_rfl) ?_ _
                    exact ⟨rfl, g9, R9, _, hR9, rfl, rfl⟩
                  exact AllReadyIn.nil
                exact AllReadyIn.nil
              exact AllReadyIn.nil
            exact AllReadyIn.nil
          exact AllReadyIn.nil
        refine AllReadyIn.cons rfl (fun K hK => ?_) ?_
        · go_simp
          refine hK _ _ ?_
          clear hK K
          refine wpAnyIn_take (i := 4) (v := ?_) rfl rfl (by kernel_rfl) (by kernel_rfl) (by kernel_rfl) (fun _ _ _ h => by cases h.1) ⟨Or.inl ⟨by rfl, ?hy⟩, fun _ => rfl⟩ ?_
          case hy => (intro w; go_simp; try with_reducible rfl)
          refine wpAnyIn_ready (rs := [1, 2]) (by kernel_rfl) (by simp) ?_
          refine AllReadyIn.cons rfl (fun K hK => ?_) ?_
          · go_simp
            refine ⟨trivial, (callsIn_wide.2 T1).mono ?_⟩
            rintro e w1 ⟨rfl, rfl⟩
            refine hK _ _ ?_
            clear hK K
            refine wpAnyIn_ready (rs := [2]) (by kernel_rfl) (by simp) ?_
            refine AllReadyIn.cons rfl (fun K hK => ?_) ?_
            · go_simp
              refine hK _ _ ?_
              clear hK K
              refine wpAnyIn_take (i := 5) (v := ?_) rfl rfl (by kernel_rfl) (by kernel_rfl) (by kernel_rfl) (fun _ _ _ h => by cases h.1) ⟨Or.inl ⟨by rfl, ?hy⟩, fun _ => rfl⟩ ?_
              case hy => (intro w; go_simp; try with_reducible rfl)
              refine wpAnyIn_ready (rs := [7]) (by kernel_rfl) (by simp) ?_
              refine AllReadyIn.cons rfl (fun K hK => ?_) ?_
              · go_simp
                refine ⟨trivial, (callsIn_wide.2 SD).mono ?_⟩
                rintro e W9 ⟨g9, R9, rfl, hR9, T2, cB9, fB9⟩
                refine hK _ _ ?_
                clear hK K
                refine wpAnyIn_ready (rs := [8]) (by kernel_rfl) (by simp) ?_
                refine AllReadyIn.cons rfl (fun K hK => ?_) ?_
                · go_simp
                  refine ⟨trivial, (callsIn_wide.2 T2).mono ?_⟩
                  rintro e w1 ⟨rfl, rfl⟩
                  refine hK _ _ ?_
                  clear hK K
                  refine wpAnyIn_ready (rs := [9]) (by kernel_rfl) (by simp) ?_
                  refine AllReadyIn.cons rfl (fun K hK => ?_) ?_
                  · go_simp
                    refine hK _ _ ?_
                    clear hK K
                    refine wpAnyIn_take (i := 10) (v := ?_) rfl rfl (by kernel_rfl) (by kernel_rfl) (by kernel_rfl) (fun _ _ _ h => by cases h.1) ⟨Or.inl ⟨by rfl, ?hy⟩, fun _ => rfl⟩ ?_
                    case hy => (intro w; go_simp; try with_reducible rfl)
                    refine wpAnyIn_done (by kernel_rfl) ?_ _
                    exact ⟨rfl, g9, R9, _, hR9, rfl, rfl⟩
                  exact AllReadyIn.nil
                exact AllReadyIn.nil
              exact AllReadyIn.nil
            exact AllReadyIn.nil
          refine AllReadyIn.cons rfl (fun K hK => ?_) ?_
          · go_simp
            refine hK _ _ ?_
            clear hK K
            refine wpAnyIn_take (i := 5) (v := ?_) rfl rfl (by kernel_rfl) (by kernel_rfl) (by kernel_rfl) (fun _ _ _ h => by cases h.1) ⟨Or.inl ⟨by rfl, ?hy⟩, fun _ => rfl⟩ ?_
            case hy => (intro w; go_simp; try with_reducible rfl)
            refine wpAnyIn_ready (rs := [1]) (by kernel_rfl) (by simp) ?_
            refine AllReadyIn.cons rfl (fun K hK => ?_) ?_
            · go_simp
              refine ⟨trivial, (callsIn_wide.2 T1).mono ?_⟩
              rintro e w1 ⟨rfl, rfl⟩
              refine hK _ _ ?_
              clear hK K
              refine wpAnyIn_ready (rs := [7]) (by kernel_rfl) (by simp) ?_
              refine AllReadyIn.cons rfl (fun K hK => ?_) ?_
              · go_simp
                refine ⟨trivial, (callsIn_wide.2 SD).mono ?_⟩
                rintro e W9 ⟨g9, R9, rfl, hR9, T2, cB9, fB9⟩
                refine hK _ _ ?_
                clear hK K
                refine wpAnyIn_ready (rs := [8]) (by kernel_rfl) (by simp) ?_
                refine AllReadyIn.cons rfl (fun K hK => ?_) ?_
                · go_simp
                  refine ⟨trivial, (callsIn_wide.2 T2).mono ?_⟩
                  rintro e w1 ⟨rfl, rfl⟩
                  refine hK _ _ ?_
                  clear hK K
                  refine wpAnyIn_ready (rs := [9]) (by kernel_rfl) (by simp) ?_
                  refine AllReadyIn.cons rfl (fun K hK => ?_) ?_
                  · go_simp
                    refine hK _ _ ?_
                    clear hK K
                    refine wpAnyIn_take (i := 10) (v := ?_) rfl rfl (by kernel_rfl) (by kernel_rfl) (by kernel_rfl) (fun _ _ _ h => by cases h.1) ⟨Or.inl ⟨by rfl, ?hy⟩, fun _ => rfl⟩ ?_
                    case hy => (intro w; go_simp; try with_reducible rfl)
                    refine wpAnyIn_done (by kernel_rfl) ?_ _
                    exact ⟨rfl, g9, R9, _, hR9, rfl, rfl⟩
                  exact AllReadyIn.nil
                exact AllReadyIn.nil
              exact AllReadyIn.nil
            exact AllReadyIn.nil
          exact AllReadyIn.nil
        exact AllReadyIn.nil
      refine AllReadyIn.cons rfl (fun K hK => ?_) ?_
      · go_simp
        refine hK _ _ ?_
        clear hK K
        refine wpAnyIn_ready (rs := [0, 3]) (by kernel_rfl) (by simp) ?_
        refine AllReadyIn.cons rfl (fun K hK => ?_) ?_
        · go_simp
          refine hK _ _ ?_
          clear hK K
          refine wpAnyIn_ready (rs := [1, 3]) (by kernel_rfl) (by simp) ?_
          refine AllReadyIn.cons rfl (fun K hK => ?_) ?_
          · go_simp
            refine ⟨trivial, (callsIn_wide.2 T1).mono ?_⟩
            rintro e w1 ⟨rfl, rfl⟩
            refine hK _ _ ?_
            clear hK K
            refine wpAnyIn_ready (rs := [3]) (by kernel_rfl) (by simp) ?_
            refine AllReadyIn.cons rfl (fun K hK => ?_) ?_
            · go_simp
              refine hK _ _ ?_
              clear hK K
              refine wpAnyIn_take (i := 4) (v := ?_) rfl rfl (by kernel_rfl) (by kernel_rfl) (by kernel_rfl) (fun _ _ _ h => by cases h.1) ⟨Or.inl ⟨by rfl, ?hy⟩, fun _ => rfl⟩ ?_
              case hy => (intro w; go_simp; try with_reducible rfl)
              refine wpAnyIn_take (i := 5) (v := ?_) rfl rfl (by kernel_rfl) (by kernel_rfl) (by kernel_rfl) (fun _ _ _ h => by cases h.1) ⟨Or.inl ⟨by rfl, ?hy⟩, fun _ => rfl⟩ ?_
              case hy => (intro w; go_simp; try with_reducible rfl)
              refine wpAnyIn_ready (rs := [7]) (by kernel_rfl) (by simp) ?_
              refine AllReadyIn.cons rfl (fun K hK => ?_) ?_
              · go_simp
                refine ⟨trivial, (callsIn_wide.2 SD).mono ?_⟩
                rintro e W9 ⟨g9, R9, rfl, hR9, T2, cB9, fB9⟩
                refine hK _ _ ?_
                clear hK K
                refine wpAnyIn_ready (rs := [8]) (by kernel_rfl) (by simp) ?_
                refine AllReadyIn.cons rfl (fun K hK => ?_) ?_
                · go_simp
                  refine ⟨trivial, (callsIn_wide.2 T2).mono ?_⟩
                  rintro e w1 ⟨rfl, rfl⟩
                  refine hK _ _ ?_
                  clear hK K
                  refine wpAnyIn_ready (rs := [9]) (by kernel_rfl) (by simp) ?_
                  refine AllReadyIn.cons rfl (fun K hK => ?_) ?_
                  · go_simp
                    refine hK _ _ ?_
                    clear hK K
                    refine wpAnyIn_take (i := 10) (v := ?_) rfl rfl (by kernel_rfl) (by kernel_rfl) (by kernel_rfl) (fun _ _ _ h => by cases h.1) ⟨Or.inl ⟨by rfl, ?hy⟩, fun _ => rfl⟩ ?_
                    case hy => (intro w; go_simp; try with_reducible rfl)
                    refine wpAnyIn_done (by kernel_rfl) ?_ _
                    exact ⟨rfl, g9, R9, _, hR9, rfl, rfl⟩
                  exact AllReadyIn.nil
                exact AllReadyIn.nil
              exact AllReadyIn.nil
            exact AllReadyIn.nil
          refine AllReadyIn.cons rfl (fun K hK => ?_) ?_
          · go_simp
            refine hK _ _ ?_
            clear hK K
            refine wpAnyIn_take (i := 4) (v := ?_) rfl rfl (by kernel_rfl) (by kernel_rfl) (by kernel_rfl) (fun _ _ _ h => by cases h.1) ⟨Or.inl ⟨by rfl, ?hy⟩, fun _ => rfl⟩ ?_
            case hy => (intro w; go_simp; try with_reducible rfl)
            refine wpAnyIn_take (i := 5) (v := ?_) rfl rfl (by kernel_rfl) (by kernel_rfl) (by kernel_rfl) (fun _ _ _ h => by cases h.1) ⟨Or.inl ⟨by rfl, ?hy⟩, fun _ => rfl⟩ ?_
            case hy => (intro w; go_simp; try with_reducible rfl)
            refine wpAnyIn_ready (rs := [1]) (by kernel_rfl) (by simp) ?_
            refine AllReadyIn.cons rfl (fun K hK => ?_) ?_
            · go_simp
              refine ⟨trivial, (callsIn_wide.2 T1).mono ?_⟩
              rintro e w1 ⟨rfl, rfl⟩
              refine hK _ _ ?_
              clear hK K
              refine wpAnyIn_ready (rs := [7]) (by kernel_rfl) (by simp) ?_
              refine AllReadyIn.cons rfl (fun K hK => ?_) ?_
              · go_simp
                refine ⟨trivial, (callsIn_wide.2 SD).mono ?_⟩
                rintro e W9 ⟨g9, R9, rfl, hR9, T2, cB9, fB9⟩
                refine hK _ _ ?_
                clear hK K
                refine wpAnyIn_ready (rs := [8]) (by kernel_rfl) (by simp) ?_
                refine AllReadyIn.cons rfl (fun K hK => ?_) ?_
                · go_simp
                  refine ⟨trivial, (callsIn_wide.2 T2).mono ?_⟩
                  rintro e w1 ⟨rfl, rfl⟩
                  refine hK _ _ ?_
                  clear hK K
                  refine wpAnyIn_ready (rs := [9]) (by kernel_rfl) (by simp) ?_
                  refine AllReadyIn.cons rfl (fun K hK => ?_) ?_
                  · go_simp
                    refine hK _ _ ?_
                    clear hK K
                    refine wpAnyIn_take (i := 10) (v := ?_) rfl rfl (by kernel_rfl) (by kernel_rfl) (by kernel_rfl) (fun _ _ _ h => by cases h.1) ⟨Or.inl ⟨by rfl, ?hy⟩, fun _ => rfl⟩ ?_
                    case hy => (intro w; go_simp; try with_reducible rfl)
                    refine wpAnyIn_done (by kernel_rfl) ?_ _
                    exact ⟨rfl, g9, R9, _, hR9, rfl, rfl⟩
                  exact AllReadyIn.nil
                exact AllReadyIn.nil
              exact AllReadyIn.nil
            exact AllReadyIn.nil
          exact AllReadyIn.nil
        refine AllReadyIn.cons rfl (fun K hK => ?_) ?_
        · go_simp
          refine hK _ _ ?_
          clear hK K
          refine wpAnyIn_take (i := 4) (v := ?_) rfl rfl (by kernel_rfl) (by kernel_rfl) (by kernel_rfl) (fun _ _ _ h => by cases h.1) ⟨Or.inl ⟨by rfl, ?hy⟩, fun _ => rfl⟩ ?_
          case hy => (intro w; go_simp; try with_reducible rfl)
          refine wpAnyIn_take (i := 5) (v := ?_) rfl rfl (by kernel_rfl) (by kernel_rfl) (by kernel_rfl) (fun _ _ _ h => by cases h.1) ⟨Or.inl ⟨by rfl, ?hy⟩, fun _ => rfl⟩ ?_
          case hy => (intro w; go_simp; try with_reducible rfl)
          refine wpAnyIn_ready (rs := [0]) (by kernel_rfl) (by simp) ?_
          refine AllReadyIn.cons rfl (fun K hK => ?_) ?_
          · go_simp
            refine hK _ _ ?_
            clear hK K
            refine wpAnyIn_ready (rs := [1]) (by kernel_rfl) (by simp) ?_
            refine AllReadyIn.cons rfl (fun K hK => ?_) ?_
            · go_simp
              refine ⟨trivial, (callsIn_wide.2 T1).mono ?_⟩
              rintro e w1 ⟨rfl, rfl⟩
              refine hK _ _ ?_
              clear hK K
              refine wpAnyIn_ready (rs := [7]) (by kernel_rfl) (by simp) ?_
              refine AllReadyIn.cons rfl (fun K hK => ?_) ?_
              · go_simp
                refine ⟨trivial, (callsIn_wide.2 SD).mono ?_⟩
                rintro e W9 ⟨g9, R9, rfl, hR9, T2, cB9, fB9⟩
                refine hK _ _ ?_
                clear hK K
                refine wpAnyIn_ready (rs := [8]) (by kernel_rfl) (by simp) ?_
                refine AllReadyIn.cons rfl (fun K hK => ?_) ?_
                · go_simp
                  refine ⟨trivial, (callsIn_wide.2 T2).mono ?_⟩
                  rintro e w1 ⟨rfl, rfl⟩
                  refine hK _ _ ?_
                  clear hK K
                  refine wpAnyIn_ready (rs := [9]) (by kernel_rfl) (by simp) ?_
                  refine AllReadyIn.cons rfl (fun K hK => ?_) ?_
                  · go_simp
                    refine hK _ _ ?_
                    clear hK K
                    refine wpAnyIn_take (i := 10) (v := ?_) rfl rfl (by kernel_rfl) (by kernel_rfl) (by kernel_rfl) (fun _ _ _ h => by cases h.1) ⟨Or.inl ⟨by rfl, ?hy⟩, fun _ => rfl⟩ ?_
                    case hy => (intro w; go_simp; try with_reducible rfl)
                    refine wpAnyIn_done (by kernel_rfl) ?_ _
                    exact ⟨rfl, g9, R9, _, hR9, rfl, rfl⟩
                  exact AllReadyIn.nil
                exact AllReadyIn.nil
              exact AllReadyIn.nil
            exact AllReadyIn.nil
          exact AllReadyIn.nil
        exact AllReadyIn.nil
      refine AllReadyIn.cons rfl (fun K hK => ?_) ?_
      · go_simp
        refine hK _ _ ?_
        clear hK K
        refine wpAnyIn_take (i := 4) (v := ?_) rfl rfl (by kernel_rfl) (by kernel_rfl) (by kernel_rfl) (fun _ _ _ h => by cases h.1) ⟨Or.inl ⟨by rfl, ?hy⟩, fun _ => rfl⟩ ?_
        case hy => (intro w; go_simp; try with_reducible rfl)
        refine wpAnyIn_ready (rs := [0, 2]) (by kernel_rfl) (by simp) ?_
        refine AllReadyIn.cons rfl (fun K hK => ?_) ?_
        · go_simp
          refine hK _ _ ?_
          clear hK K
          refine wpAnyIn_ready (rs := [1, 2]) (by kernel_rfl) (by simp) ?_
          refine AllReadyIn.cons rfl (fun K hK => ?_) ?_
          · go_simp
            refine ⟨trivial, (callsIn_wide.2 T1).mono ?_⟩
            rintro e w1 ⟨rfl, rfl⟩
            refine hK _ _ ?_
            clear hK K
            refine wpAnyIn_ready (rs := [2]) (by kernel_rfl) (by simp) ?_
            refine AllReadyIn.cons rfl (fun K hK => ?_) ?_
            · go_simp
              refine hK _ _ ?_
              clear hK K
              refine wpAnyIn_take (i := 5) (v := ?_) rfl rfl (by kernel_rfl) (by kernel_rfl) (by kernel_rfl) (fun _ _ _ h => by cases h.1) ⟨Or.inl ⟨by rfl, ?hy⟩, fun _ => rfl⟩ ?_
              case hy => (intro w; go_simp; try with_reducible rfl)
              refine wpAnyIn_ready (rs := [7]) (by kernel_rfl) (by simp) ?_
              refine AllReadyIn.cons rfl (fun K hK => ?_) ?_
              · go_simp
                refine ⟨trivial, (callsIn_wide.2 SD).mono ?_⟩
                rintro e W9 ⟨g9, R9, rfl, hR9, T2, cB9, fB9⟩
                refine hK _ _ ?_
                clear hK K
                refine wpAnyIn_ready (rs := [8]) (by kernel_rfl) (by simp) ?_
                refine AllReadyIn.cons rfl (fun K hK => ?_) ?_
                · go_simp
                  refine ⟨trivial, (callsIn_wide.2 T2).mono ?_⟩
                  rintro e w1 ⟨rfl, rfl⟩
                  refine hK _ _ ?_
                  clear hK K
                  refine wpAnyIn_ready (rs := [9]) (by kernel_rfl) (by simp) ?_
                  refine AllReadyIn.cons rfl (fun K hK => ?_) ?_
                  · go_simp
                    refine hK _ _ ?_
                    clear hK K
                    refine wpAnyIn_take (i := 10) (v := ?_) rfl rfl (by kernel_rfl) (by kernel_rfl) (by kernel_rfl) (fun _ _ _ h => by cases h.1) ⟨Or.inl ⟨by rfl, ?hy⟩, fun _ => rfl⟩ ?_
                    case hy => (intro w; go_simp; try with_reducible rfl)
                    refine wpAnyIn_done (by kernel_rfl) ?_ _
                    exact ⟨rfl, g9, R9, _, hR9, rfl, rfl⟩
                  exact AllReadyIn.nil
                exact AllReadyIn.nil
              exact AllReadyIn.nil
            exact AllReadyIn.nil
          refine AllReadyIn.cons rfl (fun K hK => ?_) ?_
          · go_simp
            refine hK _ _ ?_
            clear hK K
            refine wpAnyIn_take (i := 5) (v := ?_) rfl rfl (by kernel_rfl) (by kernel_rfl) (by kernel_rfl) (fun _ _ _ h => by cases h.1) ⟨Or.inl ⟨by rfl, ?hy⟩, fun _ => rfl⟩ ?_
            case hy => (intro w; go_simp; try with_reducible rfl)
            refine wpAnyIn_ready (rs := [1]) (by kernel_rfl) (by simp) ?_
            refine AllReadyIn.cons rfl (fun K hK => ?_) ?_
            · go_simp
              refine ⟨trivial, (callsIn_wide.2 T1).mono ?_⟩
              rintro e w1 ⟨rfl, rfl⟩
              refine hK _ _ ?_
              clear hK K
              refine wpAnyIn_ready (rs := [7]) (by kernel_rfl) (by simp) ?_
              refine AllReadyIn.cons rfl (fun K hK => ?_) ?_
              · go_simp
                refine ⟨trivial, (callsIn_wide.2 SD).mono ?_⟩
                rintro e W9 ⟨g9, R9, rfl, hR9, T2, cB9, fB9⟩
                refine hK _ _ ?_
                clear hK K
                refine wpAnyIn_ready (rs := [8]) (by kernel_rfl) (by simp) ?_
                refine AllReadyIn.cons rfl (fun K hK => ?_) ?_
                · go_simp
                  refine ⟨trivial, (callsIn_wide.2 T2).mono ?_⟩
                  rintro e w1 ⟨rfl, rfl⟩
                  refine hK _ _ ?_
                  clear hK K
                  refine wpAnyIn_ready (rs := [9]) (by kernel_rfl) (by simp) ?_
                  refine AllReadyIn.cons rfl (fun K hK => ?_) ?_
                  · go_simp
                    refine hK _ _ ?_
                    clear hK K
                    refine wpAnyIn_take (i := 10) (v := ?_) rfl rfl (by kernel_rfl) (by kernel_rfl) (by kernel_rfl) (fun _ _ _ h => by cases h.1) ⟨Or.inl ⟨by rfl, ?hy⟩, fun _ => rfl⟩ ?_
                    case hy => (intro w; go_simp; try with_reducible rfl)
                    refine wpAnyIn_done (by kernel_rfl) ?_ _
                    exact ⟨rfl, g9, R9, _, hR9, rfl, rfl⟩
                  exact AllReadyIn.nil
                exact AllReadyIn.nil
              exact AllReadyIn.nil
            exact AllReadyIn.nil
          exact AllReadyIn.nil
        refine AllReadyIn.cons rfl (fun K hK => ?_) ?_
        · go_simp
          refine hK _ _ ?_
          clear hK K
          refine wpAnyIn_take (i := 5) (v := ?_) rfl rfl (by kernel_rfl) (by kernel_rfl) (by kernel_rfl) (fun _ _ _ h => by cases h.1) ⟨Or.inl ⟨by rfl, ?hy⟩, fun _ => rfl⟩ ?_
          case hy => (intro w; go_simp; try with_reducible rfl)
          refine wpAnyIn_ready (rs := [0]) (by kernel_rfl) (by simp) ?_
          refine AllReadyIn.cons rfl (fun K hK => ?_) ?_
          · go_simp
            refine hK _ _ ?_
            clear hK K
            refine wpAnyIn_ready (rs := [1]) (by kernel_rfl) (by simp) ?_
            refine AllReadyIn.cons rfl (fun K hK => ?_) ?_
            · go_simp
              refine ⟨trivial, (callsIn_wide.2 T1).mono ?_⟩
              rintro e w1 ⟨rfl, rfl⟩
              refine hK _ _ ?_
              clear hK K
              refine wpAnyIn_ready (rs := [7]) (by kernel_rfl) (by simp) ?_
              refine AllReadyIn.cons rfl (fun K hK => ?_) ?_
              · go_simp
                refine ⟨trivial, (callsIn_wide.2 SD).mono ?_⟩
                rintro e W9 ⟨g9, R9, rfl, hR9, T2, cB9, fB9⟩
                refine hK _ _ ?_
                clear hK K
                refine wpAnyIn_ready (rs := [8]) (by kernel_rfl) (by simp) ?_
                refine AllReadyIn.cons rfl (fun K hK => ?_) ?_
                · go_simp
                  refine ⟨trivial, (callsIn_wide.2 T2).mono ?_⟩
                  rintro e w1 ⟨rfl, rfl⟩
                  refine hK _ _ ?_
                  clear hK K
                  refine wpAnyIn_ready (rs := [9]) (by kernel_rfl) (by simp) ?_
                  refine AllReadyIn.cons rfl (fun K hK => ?_) ?_
                  · go_simp
                    refine hK _ _ ?_
                    clear hK K
                    refine wpAnyIn_take (i := 10) (v := ?_) rfl rfl (by kernel_rfl) (by kernel_rfl) (by kernel_rfl) (fun _ _ _ h => by cases h.1) ⟨Or.inl ⟨by rfl, ?hy⟩, fun _ => rfl⟩ ?_
                    case hy => (intro w; go_simp; try with_reducible rfl)
                    refine wpAnyIn_done (by kernel_rfl) ?_ _
                    exact ⟨rfl, g9, R9, _, hR9, rfl, rfl⟩
                  exact AllReadyIn.nil
                exact AllReadyIn.nil
              exact AllReadyIn.nil
            exact AllReadyIn.nil
          exact AllReadyIn.nil
        exact AllReadyIn.nil
      exact AllReadyIn.nil
    rintro e a' W' ⟨rfl, g9, R9, W9, hR9, rfl, rfl⟩
    obtain ⟨h1, h2, h3, h4, h5, h6, h7⟩ := hR9.out
    clear hR9
    have hltB := D.bt.lt
    have hbw : Below w.heap.size w W.drew := D.be.drew
    have hb9 : Below w.heap.size w W9 := hbw.trans (h7.mono hbw.size)
    have hKlt : E < W.heap.size := (Array.getElem?_eq_some_iff.1 hK).1
    have hne : w.heap.size ≠ E := by have := D0.be.size; omega
    have rT9 : Row .u32 52 W9 gT qs := D.rt.drewW.belowW h7
    have rT10 : Row .u32 52 (W9.setCell ⟨w.heap.size, 0, none⟩ (.slice (some ⟨gT, 0, none⟩) (tl qs qs.length) L)) gT qs := rT9.other (by simp only; omega) _
    have b9 : Boxed W9 w.heap.size 22 (.slice (some ⟨gT, 0, none⟩) L L) := boxed_below D.bt.drewB h7
    have b10 := b9.set (.slice (some ⟨gT, 0, none⟩) (tl qs qs.length) L)
    have hK9 : W9.heap[E]? = some (.deferred (some [])) := (h7.block E hKlt).trans hK
    have hK10 : (W9.setCell ⟨w.heap.size, 0, none⟩ (.slice (some ⟨gT, 0, none⟩) (tl qs qs.length) L)).heap[E]? = some (.deferred (some [])) := ((grownBy_setCell'' W9 ⟨w.heap.size, 0, none⟩ _).block E (Nat.lt_of_lt_of_le hKlt h7.size) (fun e => hne (by cases e; rfl))).trans hK9
    have s10 : Seg .u32 (W9.setCell ⟨w.heap.size, 0, none⟩ (.slice (some ⟨gT, 0, none⟩) (tl qs qs.length) L)) g9 0 R9 := fun j hj => by
      rw [World.cell?_setCell_other _ _ _ _ (fun e => by injection e with e; omega)]
      exact h5 j hj
    have f10 : Free (W9.setCell ⟨w.heap.size, 0, none⟩ (.slice (some ⟨gT, 0, none⟩) (tl qs qs.length) L)) g9 0 R9.length := h6.set _ _
    have hb10 := hb9.setCell (p := ⟨w.heap.size, 0, none⟩) (Nat.le_refl _) (.slice (some ⟨gT, 0, none⟩) (tl qs qs.length) L)
    obtain ⟨W10, hW10⟩ : ∃ W10, W9.setCell ⟨w.heap.size, 0, none⟩ (.slice (some ⟨gT, 0, none⟩) (tl qs qs.length) L) = W10 := ⟨_, rfl⟩
    rw [hW10] at rT10 b10 hK10 s10 f10 hb10 ⊢
    have hgr := grownBy_putObj' W10 E (.deferred none)
    have hrow : ∀ r, some E = some r → ∃ o : Obj, W10.heap[r]? = some o ∧ o.isCells = false := fun r e => by cases e; exact ⟨_, hK10, rfl⟩
    have b11 : Boxed (W10.putObj E (.deferred none)) w.heap.size 22 (.slice (some ⟨gT, 0, none⟩) (tl qs qs.length) L) := b10.kept hgr (fun e => hne (by cases e; rfl))
    have hbf : Below w.heap.size w (W10.putObj E (.deferred none)) := hb10.grown hgr hb10.size (fun r e => by cases e; have := D0.be.size; omega)
    have rTf : Row .u32 52 (W10.putObj E (.deferred none)) gT qs := own_row (β := Unit) .u32 52 gT (fun _ => qs) () _ _ (some E) rT10 hgr hrow
    have sRf : Seg .u32 (W10.putObj E (.deferred none)) g9 0 R9 := fun j hj => cell_kept (s10 j hj) hgr hrow
    have fRf : Free (W10.putObj E (.deferred none)) g9 0 R9.length := fun j hj => (frozen_kept (s10 j hj) hgr hrow).trans (f10 j hj)
    have hWw := D.be.size
    have O1 : Ow .u32 w.heap.size (W10.putObj E (.deferred none)) (.slice (some ⟨gT, 0, none⟩) L L) qs := ⟨_, _, by rw [lq], by omega, fun _ => ⟨gT, 0, rfl, by omega, rTf.seg, rTf.free _ _⟩⟩
    have O2 : Ow .u32 w.heap.size (W10.putObj E (.deferred none)) (.slice (some ⟨g9, 0, none⟩) (m + 2) (m + 2)) R9 := ⟨_, _, by rw [h2], by omega, fun _ => ⟨g9, 0, rfl, by omega, sRf, fRf⟩⟩
    have FIN : Hid (Ow .u32 w.heap.size (W10.putObj E (.deferred none)) (.slice (some ⟨gT, 0, none⟩) (tl qs qs.length) L) (trimL qs) ∧ Ow .u32 w.heap.size (W10.putObj E (.deferred none)) (.slice (some ⟨g9, 0, none⟩) (tl R9 R9.length) (m + 2)) (trimL R9)) := ⟨O1.trimmed, O2.trimmed⟩
    have c11 := b11.cell
    clear O1 O2 sRf fRf rTf b10 rT10 s10 f10 hb10 rT9 b9 hK9 h5 h6 h7 hb9 hbw cu cv ct ft T1 SD sT sU D D0 bS
    gi_wp2_with fail
    refine ⟨by simp, .inl ⟨_, _, rfl, run_takeDeferred hK10, ?_⟩⟩
    refine ⟨.tuple #[.slice (some ⟨gT, 0, none⟩) (tl qs qs.length) L, .slice (some ⟨g9, 0, none⟩) (tl R9 R9.length) (m + 2)], by simp [results, Try.f36, go_sem, c11], _, _, _, _, _, _, trimL qs, trimL R9, rfl, FIN.out.1, FIN.out.2, okw_trimL oq, okw_trimL h3, Tr_trimL _, Tr_trimL _, by rw [val_trimL]; exact HEnd.out, by rw [val_trimL]; exact h4, hbf⟩
  case stop =>
    rintro D c W _ h _
    exact h.elim
end Go.Proofs.Yteplmnnpmekngab
