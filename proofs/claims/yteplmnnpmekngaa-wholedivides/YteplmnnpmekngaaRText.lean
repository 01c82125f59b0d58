/-
  The reference: Text.
-/
import Derived.Deep.CutBlock
import Derived.Test.YteplmnnpmekngaaMg
import Derived.Test.YteplmnnpmekngaaMd
namespace Go.Proofs.Yteplmnnpmekngaa
open Go.RowKit

theorem words_ne_bytes {B C : Nat} {w : World} {v u : Value} {xs ts : List Nat} (hw : Words B w v xs) (hb : Bytes C w u ts) (g : Nat) (hg : v.ownBlock = some g) : u.ownBlock ≠ some g := fun e => by
  obtain ⟨c, fz, h1⟩ := Go.Lib.ownsRow_kind hw g hg
  obtain ⟨c', fz', h2⟩ := Go.Lib.ownsRow_kind hb g e
  rw [h1] at h2
  injection h2 with h2
  injection h2 with _ h2
  exact absurd h2 (by decide)
theorem Bytes.setWord {B C : Nat} {w : World} {g n c : Nat} {u : Value} {xs ts : List Nat} (hw : Words B w (.slice (some ⟨g, 0, none⟩) n c) xs) (hb : Bytes C w u ts) (j : Nat) (v : Value) : Bytes C (w.setCell ⟨g, j, none⟩ v) u ts :=
  ownsRow_setCell_other hb (words_ne_bytes hw hb g rfl) v
theorem Bytes.nil (B : Nat) (w : World) : Bytes B w (.slice none 0 0) [] := ⟨rfl, Or.inl ⟨rfl, rfl⟩⟩
theorem Bytes.below {B : Nat} {w w' : World} {v : Value} {ts : List Nat} (h : Bytes B w v ts) (hb : Below w.heap.size w w') : Bytes B w' v ts := by
  refine ⟨h.1, ?_⟩
  rcases h.2 with h2 | ⟨g, cap, cur, e, hB, hh, h3⟩
  · exact Or.inl h2
  · exact Or.inr ⟨g, cap, cur, e, hB, (hb.block g (Array.getElem?_eq_some_iff.1 hh).1).trans hh, h3⟩

theorem Words.lower {B B' : Nat} {w : World} {v : Value} {xs : List Nat} (h : Words B w v xs) (hB : B' ≤ B) : Words B' w v xs :=
  ⟨h.1, h.2.imp id fun ⟨g, cap, cur, e, hg, r⟩ => ⟨g, cap, cur, e, Nat.le_trans hB hg, r⟩⟩
theorem Words.tt {B C : Nat} {w w' : World} {v : Value} {xs : List Nat} (h : Words B w v xs) (ht : TextTurn C w w') : Words B w' v xs := by
  refine ⟨h.1, ?_⟩
  rcases h.2 with h2 | ⟨g, cap, cur, e, hg, hh, r⟩
  · exact Or.inl h2
  · refine Or.inr ⟨g, cap, cur, e, hg, (ht.block g (Array.getElem?_eq_some_iff.1 hh).1 (Or.inr fun c f e => ?_)).trans hh, r⟩
    rw [hh] at e
    injection e with e
    injection e with _ e
    exact absurd e (by decide)
theorem nine_step {vX vm vz r : Nat} {ts : List Nat} (hr : r < 1000000000) (od : okd ts) (hX : vX = dval ts + 10 ^ ts.length * vm) (hm : vm = vz * 1000000000 + r) (h0 : 0 < vm) :
    vz < vm ∧ vX = dval (ts ++ dg9 9 r) + 10 ^ (ts ++ dg9 9 r).length * vz ∧ okd (ts ++ dg9 9 r) ∧ ((ts ++ dg9 9 r).length ≤ 9 ∨ 10 ^ ((ts ++ dg9 9 r).length - 9) ≤ vX) := by
  refine ⟨by omega, ?_, okd_append.2 ⟨od, okd_dg9 _ _⟩, Or.inr ?_⟩
  · have := pieces_val (ps := [r]) (k := 1) (vy := vz) rfl (by simpa using hr) hX (by simp [pval]; omega)
    simpa [dgs] using this
  · rw [List.length_append, dg9_length, Nat.add_sub_cancel, hX]
    have : 10 ^ ts.length * 1 ≤ 10 ^ ts.length * vm := Nat.mul_le_mul_left _ h0
    omega

set_option maxRecDepth 100000 in
set_option maxHeartbeats 8000000 in
theorem rtext_some (neg : Bool) (a : Option Addr) (n cap : Nat) (xs : List Nat) (w : World) (h : Sl .u32 w (.slice a n cap) xs) (h0 : val xs ≠ 0) (ox : okw xs) (hbig : xs.length ≤ 1000) :
    Calls Try.prog 34 #[.agg #[.bool neg, .slice a n cap]] w fun e w' => ∃ ts, e = .returned (textOf (decBytes neg ts)) ∧ IsDec ts (val xs) ∧ Below w.heap.size w w' := by
  obtain ⟨i0, hi, hz0, hz1, hz2⟩ := info_parts Try.infoByte
  have hb : Below w.heap.size w (w.alloc (.cells #[.bool neg, .slice a n cap] 24)) := below_alloc _ _
  have c0 := Box2.new w neg a n cap 24
  go_enter Try.func34, Try.ntmps34
  go_wp2_with fail
  obtain ⟨w0, hW⟩ : ∃ w0, w.alloc (.cells #[.bool neg, .slice a n cap] 24) = w0 := ⟨_, rfl⟩
  rw [hW] at c0 hb ⊢
  clear hW
  refine (rform_any neg a n cap xs w0 (h.below hb) ox (by omega)).mono ?_
  rintro e w3 ⟨n3, a3, l3, c3, rfl, hI3, hb3⟩
  replace c0 := c0.below hb3
  replace hI3 := hI3.mono hb.size
  have hB3 : Below w.heap.size w w3 := hb.trans (hb3.mono hb.size)
  have r0 := c0.c0
  have r1 := c0.c1
  have rf0 := c0.f0
  have rf1 := c0.f1
  go_upto_region 2 with fail
  clear r0 r1 rf0 rf1
  have hA4 := c0.put n3 a3 l3 c3
  have hI4 := hI3.put c0 n3 (.slice a3 l3 c3)
  have hB4 := below_put2 (N := w.heap.size) hB3 (Nat.le_refl _) n3 (.slice a3 l3 c3)
  obtain ⟨w4, hw4⟩ : ∃ w4, (w3.setCell ⟨w.heap.size, 0, none⟩ (.bool n3)).setCell ⟨w.heap.size, 1, none⟩ (.slice a3 l3 c3) = w4 := ⟨_, rfl⟩
  have hw5 : put2 w3 w.heap.size n3 (.slice a3 l3 c3) = w4 := hw4
  rw [hw5] at hA4 hI4 hB4
  rw [hw4]
  clear hw4 hw5 hI3 hB3 hb3 c0 hb
  clear w3 w0
  obtain ⟨ys, oY, ho, fm, ez⟩ := hI4.open
  obtain ⟨hvy, hns⟩ := zv_eq ez
  obtain rfl := hns (by omega)
  have len := oY.len
  subst len
  have lb : ys.length ≤ 1000 := by
    have := Tr_len_le fm.tr xs.length (by rw [hvy]; exact val_lt ox)
    omega
  have hyn : ys.length ≠ 0 := fun e => by have := (Tr_zero fm.tr).2 e; omega
  have t0 : ((ys.length : Int) == 0) = false := by rw [beq_eq_false_iff_ne]; omega
  have q0 := hA4.c0
  have q1 := hA4.c1
  have HY : Hid (val ys = val xs) := hvy
  have htr : tl ys ys.length = ys.length := tl_Tr fm.tr
  have htl : trimL ys = ys := trimL_Tr fm.tr
  have hlt4 := hA4.lt
  go_wp2_with fail
  have ht := rtrim_any a3 ys.length c3 ys w4 oY.sl (by omega)
  rw [htr, htl] at ht
  refine ht.mono ?_
  rintro e w5 ⟨a5, c5, rfl, hw5, _, hb5⟩
  obtain ⟨C, hC⟩ : ∃ C, w4.heap.size = C := ⟨_, rfl⟩
  rw [hC] at hlt4 hw5 hb5
  have hyn' : ys ≠ [] := fun e => hyn (by rw [e]; rfl)
  have hvpos : 0 < val ys := by omega
  have hvw := val_lt ho
  clear ht q0 q1 ez hI4 oY htr htl hvy hns t0
  go_wp2_with fail
  go_loopg [3, 4] (val ys) (fun gk mv tv wr => ∃ (a c : _) (ms ts : List Nat), mv = .slice a ms.length c ∧ gk = val ms ∧ Words C wr (.slice a ms.length c) ms ∧ okw ms ∧ Tr ms ∧ ms.length ≤ ys.length ∧ okd ts ∧ val ys = dval ts + 10 ^ ts.length * val ms ∧ (ts.length ≤ 9 ∨ 10 ^ (ts.length - 9) ≤ val ys) ∧ Bytes C wr tv ts ∧ Below C w4 wr)
  case atStart => exact ⟨a5, c5, ys, [], rfl, rfl, hw5, ho, fm.tr, Nat.le_refl _, okd_nil, by simp [dval], Or.inl (by simp), Bytes.nil _ _, hb5⟩
  case round =>
    clear hw5 hb5
    obtain ⟨a, c, ms, ts, rfl, hgk, hw, om, tm, lm, od, hval, hbd, hbt, hb⟩ := hrel
    have A : Aside (gk = val ms ∧ val ys = dval ts + 10 ^ ts.length * val ms ∧ (ts.length ≤ 9 ∨ 10 ^ (ts.length - 9) ≤ val ys)) := ⟨hgk, hval, hbd⟩
    clear hgk hval hbd
    by_cases hm0 : 0 < ms.length
    · have t1 : (0 : Int) < ms.length := by omega
      go_wp2_with fail
      go_loopw [5, 6] (fun cc iv wi => ∃ (k r : Nat) (qs : List Nat), k ≤ ms.length ∧ iv = .int .i64 ((k : Int) - 1) ∧ cc = .int .u64 (r : Int) ∧ r < 1000000000 ∧ qs.length = ms.length - k ∧ okw qs ∧ val (ms.drop k) = val qs * 1000000000 + r ∧ Words C wi (.slice a ms.length c) (ms.take k ++ qs) ∧ Bytes C wi u4 ts ∧ Below C w4 wi) (fun _ iv _ => (intOf iv + 1).toNat)
      case atStart => exact ⟨ms.length, 0, [], Nat.le_refl _, rfl, rfl, by omega, by simp, okw_nil, by simp [val], by simpa using hw, hbt, hb⟩
      case round =>
        clear hw hbt hb
        obtain ⟨k, r, qs, hk, rfl, rfl, hr, hq, oq, hdv, hw, hbt, hb⟩ := hrel
        cases k with
        | succ k =>
          have hl : (ms.take (k + 1) ++ qs).length = ms.length := by simp; omega
          have hown : wr.ownsRow C 55 1 (.slice a ms.length c) (ms.take (k + 1) ++ qs).length ((ms.take (k + 1) ++ qs).map fun x : Nat => Value.int .u32 (x : Int)) := hw
          rw [hl] at hown
          obtain ⟨g, cap', e⟩ := Go.Joins.ownsRow_form hown (by omega)
          injection e with ea eb ec
          subst ea
          have hc : wr.cell? ⟨g, k, none⟩ = some (.int .u32 ((ms[k]?.getD 0 : Nat) : Int)) := by
            rw [World.ownsRow.cellAt hown k (by omega), List.getElem?_map, List.getElem?_append_left (by simp; omega), List.getElem?_take_of_lt (by omega), List.getElem?_eq_getElem (by omega)]
            rfl
          have hf : wr.frozen? ⟨g, k, none⟩ = false := World.ownsRow.frozenAt hown k
          have hge : C ≤ g := (World.ownsRow.lt hown g rfl).1
          have hx1 := okw_get om k
          obtain ⟨x, hx⟩ : ∃ x, ms[k]?.getD 0 = x := ⟨_, rfl⟩
          have hst := div_step (by_ := 1000000000) (show k < ms.length by omega) hx hdv
          rw [hx] at hc hx1
          obtain ⟨S, hS⟩ : ∃ S, r * 4294967296 + x = S := ⟨_, rfl⟩
          have hor := or_join r x (by omega) hx1
          rw [show (r : Int) * 4294967296 + x = (S : Int) by omega] at hor
          have hqw := div_word hr hx1
          rw [hS] at hst hqw
          obtain ⟨D, hD⟩ : ∃ D, S / 1000000000 = D := ⟨_, rfl⟩
          obtain ⟨R, hR⟩ : ∃ R, S % 1000000000 = R := ⟨_, rfl⟩
          rw [hD, hR] at hst
          rw [hD] at hqw
          have e1 : (S : Int) / 1000000000 = (D : Int) := by omega
          have e2 : (S : Int) % 1000000000 = (R : Int) := by omega
          have hR1 : R < 1000000000 := by omega
          have HST : Hid (val (ms.drop k) = val (D :: qs) * 1000000000 + R) := hst
          have HW : Hid (Words C (wr.setCell ⟨g, k, none⟩ (.int .u32 (D : Int))) (.slice (some ⟨g, 0, none⟩) ms.length c) (ms.take k ++ (D :: qs))) := (by
            have := words_set hl hw k D
            rw [set_take ms qs k D (by omega)] at this
            exact this)
          have HB : Hid (Bytes C (wr.setCell ⟨g, k, none⟩ (.int .u32 (D : Int))) u4 ts) := Bytes.setWord hw hbt k _
          have HQ : Hid (qs.length = ms.length - (k + 1)) := hq
          clear hst hdv hw hown hl hq hx hS hD hR eb ec hbt
          rw [show ((k + 1 : Nat) : Int) - 1 = (k : Int) by omega]
          go_wp2_with fail
          go_roundw
          case rel => exact ⟨k, R, D :: qs, by omega, rfl, by rw [e2], hR1, by simp [HQ.out]; omega, okw_cons.2 ⟨hqw, oq⟩, HST.out, HW.out, HB.out, hb.setCell (p := ⟨g, k, none⟩) hge _⟩
          case measure => simp [intOf]
        | zero =>
          rw [List.drop_zero] at hdv
          rw [List.take_zero, List.nil_append] at hw
          simp only [Nat.sub_zero] at hq
          rw [show ((0 : Nat) : Int) - 1 = -1 from rfl]
          have ow := hw.ow
          have lenq := ow.len
          have HDV : Hid (val ms = val qs * 1000000000 + r) := hdv
          have hqs : qs.length ≤ 1000000 := by omega
          have HLQ : Hid (qs.length = ms.length) := hq
          clear hq lenq
          go_wp2_with (go_at_call 66; refine (rtrim_any a ms.length c qs wr ow.sl hqs).mono ?_; rintro e w6 ⟨a6, c6, rfl, hw6, _, hb6⟩)
          have hbt6 := hbt.below hb6
          have hbC : Below C w4 w6 := hb.trans (hb6.mono (by rw [← hC]; exact hb.size))
          have hsz6 : C ≤ w6.heap.size := by rw [← hC]; exact hbC.size
          have hwC : Words C w6 (.slice a6 (tl qs qs.length) c6) (trimL qs) := Words.lower hw6 (by rw [← hC]; exact hb.size)
          have HT : Hid (tl qs qs.length = (trimL qs).length) := (trimL_length qs).symm
          obtain ⟨zs, hzs⟩ : ∃ zs, trimL qs = zs := ⟨_, rfl⟩
          have ozs : okw zs := by rw [← hzs]; exact okw_trimL oq
          have tzs : Tr zs := by rw [← hzs]; exact Tr_trimL qs
          have HVZ : Hid (val zs = val qs) := (by show _ = _; rw [← hzs]; exact val_trimL qs)
          have lzs : zs.length ≤ ms.length := by rw [← hzs, ← HLQ.out]; exact trimL_le qs
          rw [hzs] at HT hwC
          have hTL := HT.out
          rw [hTL] at hwC ⊢
          clear hw6 hzs hw hbt hb hb6 hdv ow hTL HT
          have h9u : ts.length ≤ 10 * ys.length + 9 := digits_bd ho A.out.2.2
          go_loopw [4, 5, 7] (fun tv cv kv wi => ∃ m : Nat, m ≤ 9 ∧ kv = .int .i64 (m : Int) ∧ cv = .int .u64 ((r / 10 ^ m : Nat) : Int) ∧ Bytes C wi tv (ts ++ dg9 m r) ∧ Words C wi (.slice a6 zs.length c6) zs ∧ Below C w4 wi) (fun _ _ kv _ => 9 - (intOf kv).toNat)
          case atStart => exact ⟨0, Nat.zero_le _, rfl, by simp, by simpa [dg9] using hbt6, hwC, hbC⟩
          case round =>
            clear hbt6 hwC hbC hsz6
            obtain ⟨m, hm, rfl, rfl, hown, hwz, hbz⟩ := hrel
            have hl9 := dg9_length m r
            obtain ⟨q, hq⟩ : ∃ q, r / 10 ^ m = q := ⟨_, rfl⟩
            have hqb : q < 1000000000 := by rw [← hq]; exact Nat.lt_of_le_of_lt (Nat.div_le_self _ _) hr
            rw [hq]
            have HQ : Hid (r / 10 ^ m = q) := hq
            obtain ⟨us, hus⟩ : ∃ us, ts ++ dg9 m r = us := ⟨_, rfl⟩
            have hul : us.length ≤ 20000 := by rw [← hus, List.length_append, hl9]; omega
            have HU : Hid (ts ++ dg9 m r = us) := hus
            rw [hus] at hown
            clear hq hus hl9
            have hws : C ≤ wr.heap.size := by rw [← hC]; exact hbz.size
            by_cases hm9 : m < 9
            · have hown1 : wr.ownsRow C 5 1 _ us.length (us.map fun x : Nat => Value.int .u8 (x : Int)) := hown
              go_wp2_with (at_builtin; refine wpList_append_own _ rfl _ _ 81 rfl C 5 i0 (.int .u8 0) 1 1 Try.underlying81 hi hz0 hz1 hz2 rfl (by decide) _ _ _ rfl (World.ownsRow.alloc hown1 _) ⟨wr.heap.size, 0, none⟩ 1 1 [.int .u8 (48 + (q : Int) % 10)] rfl rfl (new_one _ _ _) (by simp [Value.oneCell']) (by unfold maxLen; omega) (by omega) (by simp; omega) ?_; intro v' w1 hown2 hgrow _)
              have hgrow' : (wr.alloc (.cells #[.int .u8 (48 + (q : Int) % 10)] 5)).grownBy w1 u4.ownBlock := hgrow
              have T1 : TextTurn C wr w1 := (TextTurn.of_below ((Below.refl _ _).alloc (Nat.le_refl _) _)).trans (TextTurn.grown hgrow' (World.ownsRow.alloc hown1 _))
              have B1 : Bytes C w1 v' (ts ++ dg9 (m + 1) r) := by
                rw [dg9_snoc, ← List.append_assoc, HU.out, HQ.out]
                unfold Bytes
                simpa using hown2
              go_roundw
              case rel => exact ⟨m + 1, by omega, by go_num, by rw [Nat.pow_succ, ← Nat.div_div_eq_div_mul, HQ.out]; simp, B1, hwz.tt T1, hbz.trans (T1.below hws)⟩
              case measure => simp [intOf]; omega
            · obtain rfl : m = 9 := by omega
              have HN : Hid (val zs < val ms ∧ val ys = dval us + 10 ^ us.length * val zs ∧ okd us ∧ (us.length ≤ 9 ∨ 10 ^ (us.length - 9) ≤ val ys)) := (by
                have hm1 : 0 < val ms := Nat.pos_of_ne_zero fun h => by have := (Tr_zero tm).1 h; omega
                obtain ⟨_, hX, _⟩ := A.out
                have hmv := HDV.out
                rw [← HVZ.out] at hmv
                rw [← HU.out]
                exact nine_step hr od hX hmv hm1)
              clear HU HQ
              go_wp2
              go_roundg (val zs)
              case measure => rw [A.out.1]; exact HN.out.1
              case rel =>
                obtain ⟨_, h2, h3, h4⟩ := HN.out
                exact ⟨a6, c6, zs, us, rfl, rfl, hwz, ozs, tzs, by omega, h3, h2, h4, hown, hbz⟩
    · obtain ⟨hgk, hval, hbd⟩ := A.out
      have hbd2 := digits_bd ho hbd
      have hz1 : val ms = 0 := (Tr_zero tm).2 (by omega)
      rw [hz1, Nat.mul_zero, Nat.add_zero] at hval
      have hd0 : dval ts ≠ 0 := by rw [← hval]; omega
      have htn : ts ≠ [] := fun h => hd0 (by rw [h]; rfl)
      obtain ⟨gt, ct, et, hBt, hct, hmx, hgt⟩ := hbt.place htn
      subst et
      have htl : 0 < ts.length := List.length_pos_iff.2 htn
      have hnb : wr.cell? ⟨w.heap.size, 0, none⟩ = some (.bool n3) := (hb.cell (p := ⟨w.heap.size, 0, none⟩) hlt4).trans hA4.c0
      have st := hbt.ow.sl
      have hst : Seg .u8 wr gt 0 ts := by
        obtain ⟨b, o, e1, h1⟩ := st.place
        obtain ⟨e2, _⟩ := e1 htn
        injection e2 with e2
        injection e2 with e2 e3
        subst e2; subst e3
        exact h1
      have D : Aside (val ys = dval ts ∧ dval ts ≠ 0) := ⟨hval, hd0⟩
      have hzl0 : ¬ (0 : Int) < (ms.length : Int) := by omega
      have hBr : Below w.heap.size w wr := hB4.trans (hb.mono (by omega))
      have hts : ts.length ≤ 20000 := by omega
      clear st hz1 hval hbd hgk hd0 A hw
      go_wp2
      go_loopg [8] ts.length (fun gk nv wi => wi = wr ∧ nv = .int .i64 (gk : Int) ∧ 0 < gk ∧ gk ≤ ts.length ∧ dval (ts.take gk) = dval ts)
      case atStart => exact ⟨rfl, rfl, htl, Nat.le_refl _, by rw [List.take_length]⟩
      case round =>
        obtain ⟨rfl, rfl, hm0, hml, hmv⟩ := hrel
        cases gk with
        | zero => exact absurd hm0 (by simp)
        | succ m =>
          have E : Aside (dval (ts.take (m + 1)) = dval ts) := hmv
          clear hmv
          have hcell := hst m (by omega)
          rw [Nat.zero_add] at hcell
          obtain ⟨x, hx⟩ : ∃ x, ts[m]?.getD 0 = x := ⟨_, rfl⟩
          rw [hx] at hcell
          have HX : Hid (ts[m]?.getD 0 = x) := hx
          clear hx
          rw [show ((m + 1 : Nat) : Int) = (m : Int) + 1 by omega]
          have hsub : (m : Int) + 1 - 1 = (m : Int) := by omega
          by_cases hgo : 0 < m ∧ x = 48
          · obtain ⟨hm1, hx48⟩ := hgo
            subst hx48
            have ht48 : (((48 : Nat) : Int) == 48) = true := rfl
            have hcut := dval_cut (show m < ts.length by omega) HX.out
            have E2 : Aside (dval (ts.take m) = dval ts) := hcut.symm.trans E.out
            clear hcut
            go_wp2
            go_roundg m
            case measure => omega
            case rel => exact ⟨rfl, by go_num, hm1, by omega, E2.out⟩
          · have hx48 : x ≠ 48 := fun h => by
              have h1 : m = 0 := by omega
              subst h1
              have hcut := dval_cut (show 0 < ts.length by omega) (HX.out.trans h)
              exact D.out.2 (E.out.symm.trans hcut)
            clear hgo
            have ht48 : ((x : Int) == 48) = false := by rw [beq_eq_false_iff_ne]; omega
            have hul : (ts.take (m + 1)).length = m + 1 := by rw [List.length_take]; omega
            have hdec : IsDec (ts.take (m + 1)) (val xs) := by
              refine ⟨okd_take od _, by rw [E.out, ← HY.out]; exact D.out.1.symm, Or.inr ?_⟩
              rw [hul, List.getElem?_take_of_lt (by omega), Nat.add_sub_cancel, HX.out]
              exact hx48
            have husc : ∀ j, j < m + 1 → wr.cell? ⟨gt, j, none⟩ = some (.int .u8 (((ts.take (m + 1))[j]?.getD 0 : Nat) : Int)) := fun j hj => by
              have := hst j (by omega)
              rw [Nat.zero_add] at this
              rw [this, List.getElem?_take_of_lt hj]
            obtain ⟨us, hus⟩ : ∃ us, ts.take (m + 1) = us := ⟨_, rfl⟩
            rw [hus] at hul hdec husc
            have hun : us ≠ [] := fun h => by rw [h] at hul; simp at hul
            have HUL : Hid (us.length = m + 1) := hul
            have HC : Hid (∀ j, j < m + 1 → wr.cell? ⟨gt, j, none⟩ = some (.int .u8 ((us[j]?.getD 0 : Nat) : Int))) := husc
            clear hus husc hul hst HX E D
            have hm20 : m ≤ 20000 := by omega
            rcases Nat.eq_zero_or_pos m with hm1 | hm1
            · subst hm1
              rw [show ((0 : Nat) : Int) + 1 = 1 from rfl]
              obtain ⟨w9, h9⟩ : ∃ w9, w9 = wr := ⟨_, rfl⟩
              subst h9
              cases n3 with
              | true =>
                have hnil : w9.ownsRow w9.heap.size 5 1 (.slice none 0 0) 0 ([] : List Value) := ⟨rfl, Or.inl ⟨rfl, rfl⟩⟩
                go_wp2_with (at_builtin; (refine wpList_append_own _ rfl _ _ 81 rfl w9.heap.size 5 i0 (.int .u8 0) 1 1 Try.underlying81 hi hz0 hz1 hz2 rfl (by decide) _ _ _ rfl (World.ownsRow.alloc hnil _) ⟨w9.heap.size, 0, none⟩ 1 1 [.int .u8 45] rfl rfl (new_one _ _ _) (by simp [Value.oneCell']) (by unfold maxLen; omega) (by omega) (by simp) ?_); intro v6 w6 hown6 hgrow6 _)
                have hgrow' : (w9.alloc (.cells #[.int .u8 45] 5)).grownBy w6 (Value.slice none 0 0).ownBlock := hgrow6
                have T6 : TextTurn w9.heap.size w9 w6 := (TextTurn.of_below ((Below.refl _ _).alloc (Nat.le_refl _) _)).trans (TextTurn.grown hgrow' (World.ownsRow.alloc hnil _))
                have hB6 : Below w9.heap.size w9 w6 := T6.below (Nat.le_refl _)
                have hs6 : Bytes w9.heap.size w6 v6 [45] := by
                  unfold Bytes
                  simpa using hown6
                clear hown6 hgrow6 hgrow' T6
                go_loopw [9, 10] (fun ov iv wi => ∃ k : Nat, k ≤ 0 + 1 ∧ iv = .int .i64 ((k : Int) - 1) ∧ Bytes w9.heap.size wi ov ([45] ++ (us.drop k).reverse) ∧ Below w9.heap.size w9 wi) (fun _ iv _ => (intOf iv + 1).toNat)
                case atStart => exact ⟨0 + 1, Nat.le_refl _, by go_num, by rw [show us.drop (0 + 1) = [] from List.drop_of_length_le (Nat.le_of_eq HUL.out)]; exact (by simpa using hs6), hB6⟩
                case round =>
                  clear hs6 hB6
                  obtain ⟨k, hk, rfl, hown, hbz⟩ := hrel
                  cases k with
                  | succ k =>
                    have hc : wr.cell? ⟨gt, k, none⟩ = some (.int .u8 ((us[k]?.getD 0 : Nat) : Int)) := (hbz.cell (p := ⟨gt, k, none⟩) hgt).trans (HC.out k (by omega))
                    have hkl : k < us.length := by rw [HUL.out]; omega
                    have hdr : us.drop k = us[k]?.getD 0 :: us.drop (k + 1) := by
                      rw [List.getElem?_eq_getElem hkl]
                      exact List.drop_eq_getElem_cons hkl
                    obtain ⟨x, hx⟩ : ∃ x, us[k]?.getD 0 = x := ⟨_, rfl⟩
                    rw [hx] at hc hdr
                    obtain ⟨vs, hvs⟩ : ∃ vs, [45] ++ (us.drop (k + 1)).reverse = vs := ⟨_, rfl⟩
                    have HB : Hid ([45] ++ (us.drop k).reverse = vs ++ [x]) := (by show _ = _; rw [hdr, ← hvs, List.reverse_cons, ← List.append_assoc])
                    have hvl : vs.length ≤ 30000 := by rw [← hvs]; simp [HUL.out] <;> omega
                    rw [hvs] at hown
                    have hown1 : wr.ownsRow w9.heap.size 5 1 _ vs.length (vs.map fun x : Nat => Value.int .u8 (x : Int)) := hown
                    have hws : w9.heap.size ≤ wr.heap.size := hbz.size
                    clear hdr hvs hx hkl
                    rw [show ((k + 1 : Nat) : Int) - 1 = (k : Int) by omega]
                    go_wp2_with (at_builtin; refine wpList_append_own _ rfl _ _ 81 rfl w9.heap.size 5 i0 (.int .u8 0) 1 1 Try.underlying81 hi hz0 hz1 hz2 rfl (by decide) _ _ _ rfl (World.ownsRow.alloc hown1 _) ⟨wr.heap.size, 0, none⟩ 1 1 [.int .u8 (x : Int)] rfl rfl (new_one _ _ _) (by simp [Value.oneCell']) (by unfold maxLen; omega) (by omega) (by simp; omega) ?_; intro v' w1 hown2 hgrow _)
                    have hgrow' : (wr.alloc (.cells #[.int .u8 (x : Int)] 5)).grownBy w1 u9.ownBlock := hgrow
                    have T1 : TextTurn w9.heap.size wr w1 := (TextTurn.of_below ((Below.refl _ _).alloc (Nat.le_refl _) _)).trans (TextTurn.grown hgrow' (World.ownsRow.alloc hown1 _))
                    go_roundw
                    case rel => exact ⟨k, by omega, rfl, by rw [HB.out]; unfold Bytes; simpa using hown2, hbz.trans (T1.below hws)⟩
                    case measure => simp [intOf]
                  | zero =>
                    rw [List.drop_zero] at hown
                    rw [show ((0 : Nat) : Int) - 1 = -1 from rfl]
                    have R : Aside (textOf ([45] ++ us.reverse) = textOf (decBytes true us)) := (by show _ = _; simp [decBytes])
                    obtain ⟨bs, hbs⟩ : ∃ bs, [45] ++ us.reverse = bs := ⟨_, rfl⟩
                    have hbn : bs ≠ [] := by rw [← hbs]; simp
                    rw [hbs] at hown R
                    obtain ⟨g6, cp6, e6, hB6g, _⟩ := hown.place hbn
                    subst e6
                    obtain ⟨b6, o6, hp6, _, s6, f6⟩ := hown.ow.place
                    obtain ⟨ep, _⟩ := hp6 hbn
                    injection ep with ep
                    injection ep with ep1 ep2
                    subst ep1; subst ep2
                    have hcv := conv_bytes g6 bs.length cp6 bs wr rfl s6
                    obtain ⟨T, hT⟩ : ∃ T, textOf bs = T := ⟨_, rfl⟩
                    rw [hT] at hcv R
                    have hfin : Below w.heap.size w wr := hBr.trans (hbz.mono hBr.size)
                    clear hT s6 f6 hown hp6 hbs
                    go_wp2
                    go_ret
                    exact ⟨us, by rw [← R.out]; rfl, hdec, hfin⟩
              | false =>
                go_wp2_with fail
                go_loopw [9, 10] (fun ov iv wi => ∃ k : Nat, k ≤ 0 + 1 ∧ iv = .int .i64 ((k : Int) - 1) ∧ Bytes w9.heap.size wi ov ([] ++ (us.drop k).reverse) ∧ Below w9.heap.size w9 wi) (fun _ iv _ => (intOf iv + 1).toNat)
                case atStart => exact ⟨0 + 1, Nat.le_refl _, by go_num, by rw [show us.drop (0 + 1) = [] from List.drop_of_length_le (Nat.le_of_eq HUL.out)]; exact Bytes.nil _ _, Below.refl _ _⟩
                case round =>
                  skip
                  obtain ⟨k, hk, rfl, hown, hbz⟩ := hrel
                  cases k with
                  | succ k =>
                    have hc : wr.cell? ⟨gt, k, none⟩ = some (.int .u8 ((us[k]?.getD 0 : Nat) : Int)) := (hbz.cell (p := ⟨gt, k, none⟩) hgt).trans (HC.out k (by omega))
                    have hkl : k < us.length := by rw [HUL.out]; omega
                    have hdr : us.drop k = us[k]?.getD 0 :: us.drop (k + 1) := by
                      rw [List.getElem?_eq_getElem hkl]
                      exact List.drop_eq_getElem_cons hkl
                    obtain ⟨x, hx⟩ : ∃ x, us[k]?.getD 0 = x := ⟨_, rfl⟩
                    rw [hx] at hc hdr
                    obtain ⟨vs, hvs⟩ : ∃ vs, [] ++ (us.drop (k + 1)).reverse = vs := ⟨_, rfl⟩
                    have HB : Hid ([] ++ (us.drop k).reverse = vs ++ [x]) := (by show _ = _; rw [hdr, ← hvs, List.reverse_cons, ← List.append_assoc])
                    have hvl : vs.length ≤ 30000 := by rw [← hvs]; simp [HUL.out] <;> omega
                    rw [hvs] at hown
                    have hown1 : wr.ownsRow w9.heap.size 5 1 _ vs.length (vs.map fun x : Nat => Value.int .u8 (x : Int)) := hown
                    have hws : w9.heap.size ≤ wr.heap.size := hbz.size
                    clear hdr hvs hx hkl
                    rw [show ((k + 1 : Nat) : Int) - 1 = (k : Int) by omega]
                    go_wp2_with (at_builtin; refine wpList_append_own _ rfl _ _ 81 rfl w9.heap.size 5 i0 (.int .u8 0) 1 1 Try.underlying81 hi hz0 hz1 hz2 rfl (by decide) _ _ _ rfl (World.ownsRow.alloc hown1 _) ⟨wr.heap.size, 0, none⟩ 1 1 [.int .u8 (x : Int)] rfl rfl (new_one _ _ _) (by simp [Value.oneCell']) (by unfold maxLen; omega) (by omega) (by simp; omega) ?_; intro v' w1 hown2 hgrow _)
                    have hgrow' : (wr.alloc (.cells #[.int .u8 (x : Int)] 5)).grownBy w1 u9.ownBlock := hgrow
                    have T1 : TextTurn w9.heap.size wr w1 := (TextTurn.of_below ((Below.refl _ _).alloc (Nat.le_refl _) _)).trans (TextTurn.grown hgrow' (World.ownsRow.alloc hown1 _))
                    go_roundw
                    case rel => exact ⟨k, by omega, rfl, by rw [HB.out]; unfold Bytes; simpa using hown2, hbz.trans (T1.below hws)⟩
                    case measure => simp [intOf]
                  | zero =>
                    rw [List.drop_zero] at hown
                    rw [show ((0 : Nat) : Int) - 1 = -1 from rfl]
                    have R : Aside (textOf ([] ++ us.reverse) = textOf (decBytes false us)) := (by show _ = _; simp [decBytes])
                    obtain ⟨bs, hbs⟩ : ∃ bs, [] ++ us.reverse = bs := ⟨_, rfl⟩
                    have hbn : bs ≠ [] := by rw [← hbs]; simp [hun]
                    rw [hbs] at hown R
                    obtain ⟨g6, cp6, e6, hB6g, _⟩ := hown.place hbn
                    subst e6
                    obtain ⟨b6, o6, hp6, _, s6, f6⟩ := hown.ow.place
                    obtain ⟨ep, _⟩ := hp6 hbn
                    injection ep with ep
                    injection ep with ep1 ep2
                    subst ep1; subst ep2
                    have hcv := conv_bytes g6 bs.length cp6 bs wr rfl s6
                    obtain ⟨T, hT⟩ : ∃ T, textOf bs = T := ⟨_, rfl⟩
                    rw [hT] at hcv R
                    have hfin : Below w.heap.size w wr := hBr.trans (hbz.mono hBr.size)
                    clear hT s6 f6 hown hp6 hbs
                    go_wp2
                    go_ret
                    exact ⟨us, by rw [← R.out]; rfl, hdec, hfin⟩
            · have hm2 : (1 : Int) < (m : Int) + 1 := by omega
              obtain ⟨w9, h9⟩ : ∃ w9, w9 = wr := ⟨_, rfl⟩
              subst h9
              cases n3 with
              | true =>
                have hnil : w9.ownsRow w9.heap.size 5 1 (.slice none 0 0) 0 ([] : List Value) := ⟨rfl, Or.inl ⟨rfl, rfl⟩⟩
                go_wp2_with (at_builtin; (refine wpList_append_own _ rfl _ _ 81 rfl w9.heap.size 5 i0 (.int .u8 0) 1 1 Try.underlying81 hi hz0 hz1 hz2 rfl (by decide) _ _ _ rfl (World.ownsRow.alloc hnil _) ⟨w9.heap.size, 0, none⟩ 1 1 [.int .u8 45] rfl rfl (new_one _ _ _) (by simp [Value.oneCell']) (by unfold maxLen; omega) (by omega) (by simp) ?_); intro v6 w6 hown6 hgrow6 _)
                have hgrow' : (w9.alloc (.cells #[.int .u8 45] 5)).grownBy w6 (Value.slice none 0 0).ownBlock := hgrow6
                have T6 : TextTurn w9.heap.size w9 w6 := (TextTurn.of_below ((Below.refl _ _).alloc (Nat.le_refl _) _)).trans (TextTurn.grown hgrow' (World.ownsRow.alloc hnil _))
                have hB6 : Below w9.heap.size w9 w6 := T6.below (Nat.le_refl _)
                have hs6 : Bytes w9.heap.size w6 v6 [45] := by
                  unfold Bytes
                  simpa using hown6
                clear hown6 hgrow6 hgrow' T6
                go_loopw [9, 10] (fun ov iv wi => ∃ k : Nat, k ≤ m + 1 ∧ iv = .int .i64 ((k : Int) - 1) ∧ Bytes w9.heap.size wi ov ([45] ++ (us.drop k).reverse) ∧ Below w9.heap.size w9 wi) (fun _ iv _ => (intOf iv + 1).toNat)
                case atStart => exact ⟨m + 1, Nat.le_refl _, by go_num, by rw [show us.drop (m + 1) = [] from List.drop_of_length_le (Nat.le_of_eq HUL.out)]; exact (by simpa using hs6), hB6⟩
                case round =>
                  clear hs6 hB6
                  obtain ⟨k, hk, rfl, hown, hbz⟩ := hrel
                  cases k with
                  | succ k =>
                    have hc : wr.cell? ⟨gt, k, none⟩ = some (.int .u8 ((us[k]?.getD 0 : Nat) : Int)) := (hbz.cell (p := ⟨gt, k, none⟩) hgt).trans (HC.out k (by omega))
                    have hkl : k < us.length := by rw [HUL.out]; omega
                    have hdr : us.drop k = us[k]?.getD 0 :: us.drop (k + 1) := by
                      rw [List.getElem?_eq_getElem hkl]
                      exact List.drop_eq_getElem_cons hkl
                    obtain ⟨x, hx⟩ : ∃ x, us[k]?.getD 0 = x := ⟨_, rfl⟩
                    rw [hx] at hc hdr
                    obtain ⟨vs, hvs⟩ : ∃ vs, [45] ++ (us.drop (k + 1)).reverse = vs := ⟨_, rfl⟩
                    have HB : Hid ([45] ++ (us.drop k).reverse = vs ++ [x]) := (by show _ = _; rw [hdr, ← hvs, List.reverse_cons, ← List.append_assoc])
                    have hvl : vs.length ≤ 30000 := by rw [← hvs]; simp [HUL.out] <;> omega
                    rw [hvs] at hown
                    have hown1 : wr.ownsRow w9.heap.size 5 1 _ vs.length (vs.map fun x : Nat => Value.int .u8 (x : Int)) := hown
                    have hws : w9.heap.size ≤ wr.heap.size := hbz.size
                    clear hdr hvs hx hkl
                    rw [show ((k + 1 : Nat) : Int) - 1 = (k : Int) by omega]
                    go_wp2_with (at_builtin; refine wpList_append_own _ rfl _ _ 81 rfl w9.heap.size 5 i0 (.int .u8 0) 1 1 Try.underlying81 hi hz0 hz1 hz2 rfl (by decide) _ _ _ rfl (World.ownsRow.alloc hown1 _) ⟨wr.heap.size, 0, none⟩ 1 1 [.int .u8 (x : Int)] rfl rfl (new_one _ _ _) (by simp [Value.oneCell']) (by unfold maxLen; omega) (by omega) (by simp; omega) ?_; intro v' w1 hown2 hgrow _)
                    have hgrow' : (wr.alloc (.cells #[.int .u8 (x : Int)] 5)).grownBy w1 u9.ownBlock := hgrow
                    have T1 : TextTurn w9.heap.size wr w1 := (TextTurn.of_below ((Below.refl _ _).alloc (Nat.le_refl _) _)).trans (TextTurn.grown hgrow' (World.ownsRow.alloc hown1 _))
                    go_roundw
                    case rel => exact ⟨k, by omega, rfl, by rw [HB.out]; unfold Bytes; simpa using hown2, hbz.trans (T1.below hws)⟩
                    case measure => simp [intOf]
                  | zero =>
                    rw [List.drop_zero] at hown
                    rw [show ((0 : Nat) : Int) - 1 = -1 from rfl]
                    have R : Aside (textOf ([45] ++ us.reverse) = textOf (decBytes true us)) := (by show _ = _; simp [decBytes])
                    obtain ⟨bs, hbs⟩ : ∃ bs, [45] ++ us.reverse = bs := ⟨_, rfl⟩
                    have hbn : bs ≠ [] := by rw [← hbs]; simp
                    rw [hbs] at hown R
                    obtain ⟨g6, cp6, e6, hB6g, _⟩ := hown.place hbn
                    subst e6
                    obtain ⟨b6, o6, hp6, _, s6, f6⟩ := hown.ow.place
                    obtain ⟨ep, _⟩ := hp6 hbn
                    injection ep with ep
                    injection ep with ep1 ep2
                    subst ep1; subst ep2
                    have hcv := conv_bytes g6 bs.length cp6 bs wr rfl s6
                    obtain ⟨T, hT⟩ : ∃ T, textOf bs = T := ⟨_, rfl⟩
                    rw [hT] at hcv R
                    have hfin : Below w.heap.size w wr := hBr.trans (hbz.mono hBr.size)
                    clear hT s6 f6 hown hp6 hbs
                    go_wp2
                    go_ret
                    exact ⟨us, by rw [← R.out]; rfl, hdec, hfin⟩
              | false =>
                go_wp2_with fail
                go_loopw [9, 10] (fun ov iv wi => ∃ k : Nat, k ≤ m + 1 ∧ iv = .int .i64 ((k : Int) - 1) ∧ Bytes w9.heap.size wi ov ([] ++ (us.drop k).reverse) ∧ Below w9.heap.size w9 wi) (fun _ iv _ => (intOf iv + 1).toNat)
                case atStart => exact ⟨m + 1, Nat.le_refl _, by go_num, by rw [show us.drop (m + 1) = [] from List.drop_of_length_le (Nat.le_of_eq HUL.out)]; exact Bytes.nil _ _, Below.refl _ _⟩
                case round =>
                  skip
                  obtain ⟨k, hk, rfl, hown, hbz⟩ := hrel
                  cases k with
                  | succ k =>
                    have hc : wr.cell? ⟨gt, k, none⟩ = some (.int .u8 ((us[k]?.getD 0 : Nat) : Int)) := (hbz.cell (p := ⟨gt, k, none⟩) hgt).trans (HC.out k (by omega))
                    have hkl : k < us.length := by rw [HUL.out]; omega
                    have hdr : us.drop k = us[k]?.getD 0 :: us.drop (k + 1) := by
                      rw [List.getElem?_eq_getElem hkl]
                      exact List.drop_eq_getElem_cons hkl
                    obtain ⟨x, hx⟩ : ∃ x, us[k]?.getD 0 = x := ⟨_, rfl⟩
                    rw [hx] at hc hdr
                    obtain ⟨vs, hvs⟩ : ∃ vs, [] ++ (us.drop (k + 1)).reverse = vs := ⟨_, rfl⟩
                    have HB : Hid ([] ++ (us.drop k).reverse = vs ++ [x]) := (by show _ = _; rw [hdr, ← hvs, List.reverse_cons, ← List.append_assoc])
                    have hvl : vs.length ≤ 30000 := by rw [← hvs]; simp [HUL.out] <;> omega
                    rw [hvs] at hown
                    have hown1 : wr.ownsRow w9.heap.size 5 1 _ vs.length (vs.map fun x : Nat => Value.int .u8 (x : Int)) := hown
                    have hws : w9.heap.size ≤ wr.heap.size := hbz.size
                    clear hdr hvs hx hkl
                    rw [show ((k + 1 : Nat) : Int) - 1 = (k : Int) by omega]
                    go_wp2_with (at_builtin; refine wpList_append_own _ rfl _ _ 81 rfl w9.heap.size 5 i0 (.int .u8 0) 1 1 Try.underlying81 hi hz0 hz1 hz2 rfl (by decide) _ _ _ rfl (World.ownsRow.alloc hown1 _) ⟨wr.heap.size, 0, none⟩ 1 1 [.int .u8 (x : Int)] rfl rfl (new_one _ _ _) (by simp [Value.oneCell']) (by unfold maxLen; omega) (by omega) (by simp; omega) ?_; intro v' w1 hown2 hgrow _)
                    have hgrow' : (wr.alloc (.cells #[.int .u8 (x : Int)] 5)).grownBy w1 u9.ownBlock := hgrow
                    have T1 : TextTurn w9.heap.size wr w1 := (TextTurn.of_below ((Below.refl _ _).alloc (Nat.le_refl _) _)).trans (TextTurn.grown hgrow' (World.ownsRow.alloc hown1 _))
                    go_roundw
                    case rel => exact ⟨k, by omega, rfl, by rw [HB.out]; unfold Bytes; simpa using hown2, hbz.trans (T1.below hws)⟩
                    case measure => simp [intOf]
                  | zero =>
                    rw [List.drop_zero] at hown
                    rw [show ((0 : Nat) : Int) - 1 = -1 from rfl]
                    have R : Aside (textOf ([] ++ us.reverse) = textOf (decBytes false us)) := (by show _ = _; simp [decBytes])
                    obtain ⟨bs, hbs⟩ : ∃ bs, [] ++ us.reverse = bs := ⟨_, rfl⟩
                    have hbn : bs ≠ [] := by rw [← hbs]; simp [hun]
                    rw [hbs] at hown R
                    obtain ⟨g6, cp6, e6, hB6g, _⟩ := hown.place hbn
                    subst e6
                    obtain ⟨b6, o6, hp6, _, s6, f6⟩ := hown.ow.place
                    obtain ⟨ep, _⟩ := hp6 hbn
                    injection ep with ep
                    injection ep with ep1 ep2
                    subst ep1; subst ep2
                    have hcv := conv_bytes g6 bs.length cp6 bs wr rfl s6
                    obtain ⟨T, hT⟩ : ∃ T, textOf bs = T := ⟨_, rfl⟩
                    rw [hT] at hcv R
                    have hfin : Below w.heap.size w wr := hBr.trans (hbz.mono hBr.size)
                    clear hT s6 f6 hown hp6 hbs
                    go_wp2
                    go_ret
                    exact ⟨us, by rw [← R.out]; rfl, hdec, hfin⟩
end Go.Proofs.Yteplmnnpmekngaa
