/-
  What the reference's Unquote does; the walk of LettersUnquote.
-/
import Derived.Test.YtkppnncpejohgaaDoorLeRefE
namespace Go.Proofs.YtkppnncpejohgaaDoor
open Go.RowKit Go.Lib

theorem decodeL_ascii0 (l : List UInt8) (h : (l.getD 0 0).toNat < 128) : decodeL l = ((l.getD 0 0).toNat, 1) := by
  rw [decodeL_N, decodeN_ascii _ _ _ _ _ h]
theorem decodeL_high0 (l : List UInt8) (h : 128 ≤ (l.getD 0 0).toNat) : 128 ≤ (decodeL l).1 := by
  rw [decodeL_N]
  have k0 := (l.getD 0 0).toNat_lt
  rcases decodeN_shape l.length (l.getD 0 0).toNat (l.getD 1 0).toNat (l.getD 2 0).toNat (l.getD 3 0).toNat with ⟨c, e⟩ | ⟨c1, c2, c3, cv, e⟩ | ⟨c1, c2, c3, c4, cv, cs, e⟩ | ⟨c1, c2, c3, c4, c5, cv, cw, e⟩ | e
  all_goals (rw [e]; dsimp only; omega)
theorem ctl_true {r : Nat} (h : r < 32 ∨ r = 127) : ctl r = true := decide_eq_true h
theorem ctl_false {r : Nat} (h : ¬ (r < 32 ∨ r = 127)) : ctl r = false := decide_eq_false h
theorem re_width (l : List UInt8) : (re l).2 = 0 ∨ 2 ≤ (re l).2 := by
  have hn : ∀ v most n, 2 ≤ n → (num v most n).2 = 0 ∨ 2 ≤ (num v most n).2 := fun v most n hn => by
    unfold num
    repeat' split
    all_goals simp
    all_goals omega
  unfold re
  repeat' split
  all_goals first | exact hn _ _ _ (by omega) | (simp; done)
theorem escR_some (r d : Nat) (h : 2 ≤ d) : escR (r, d) = .tuple #[.string ⟨(enc r).toArray⟩, .int .i64 ((d : Int) - 1)] := by
  unfold escR
  rw [if_neg (by show ¬ d = 0; omega)]
/-- The first rune within quotes by its first byte: a backslash. -/
theorem rq_back (l : List UInt8) (h : (l.getD 0 0).toNat = 92) : rq l = re l := by
  have hd := decodeL_ascii0 l (by omega)
  rw [rq_eq l _ _ hd, if_neg (by omega), if_neg (by rw [ctl_false (by omega)]; simp), if_pos h]
theorem rq_ctl (l : List UInt8) (h : (l.getD 0 0).toNat < 32 ∨ (l.getD 0 0).toNat = 127) : rq l = (0, 0) := by
  have hd := decodeL_ascii0 l (by omega)
  rw [rq_eq l _ _ hd, if_neg (by omega), if_pos (ctl_true h)]
theorem rq_bad (l : List UInt8) (h : bad l) : rq l = (0, 0) := by unfold rq; rw [if_pos h]
theorem rq_plain (l : List UInt8) (h1 : ¬ ((l.getD 0 0).toNat < 32 ∨ (l.getD 0 0).toNat = 127)) (h2 : (l.getD 0 0).toNat ≠ 92) (hb : ¬ bad l) : rq l = decodeL l := by
  unfold rq
  rw [if_neg hb]
  by_cases h : (l.getD 0 0).toNat < 128
  · have hd := decodeL_ascii0 l h
    rw [hd]
    rw [if_neg (by rw [ctl_false h1]; simp), if_neg h2]
  · have := decodeL_high0 l (by omega)
    rw [if_neg (by rw [ctl_false (by omega)]; simp), if_neg (by omega)]

set_option maxHeartbeats 16000000 in
set_option maxRecDepth 100000 in
theorem refUnquote_any (s : ByteArray) (w : World) (hs : s.size ≤ 70000) :
    Calls Tryd.prog 28 #[.string s] w fun e w' => e = .returned (unqT (unq s.data.toList)) ∧ Below w.heap.size w w' := by
  by_cases h0 : s.size = 0
  · have hl : s = ⟨#[]⟩ := by
      obtain ⟨⟨l⟩⟩ := s
      cases l with
      | nil => rfl
      | cons _ _ => simp [ByteArray.size] at h0
    subst hl
    go_enter Tryd.func28, Tryd.ntmps28
    go_wp2
    go_ret3
    exact ⟨rfl, Below.refl _ _⟩
  · have hl := list_ne s h0
    have hp : 0 < s.size := by omega
    have hemp : s.toList.isEmpty = false := by
      rw [← decide_eq_emptyBytes]
      exact decide_eq_false (fun h => h0 (by rw [h]; rfl))
    have hun : unq s.data.toList = if s[0]'hp = 39 ∨ s[0]'hp = 34 then (uq (s[0]'hp) (s.data.toList.drop 1)).map fun p => (p.1, 1 + p.2) else none := by
      unfold unq
      rw [if_neg hl, getD_byte s 0 hp]
    obtain ⟨x, hx⟩ : ∃ x, s[0]'hp = x := ⟨_, rfl⟩
    rw [hx] at hun
    obtain ⟨i0, hi, hz0, hz1, hz2⟩ := info_parts Tryd.infoByte
    by_cases hq : x = 39 ∨ x = 34
    · rw [if_pos hq] at hun
      have hun2 : unq s.data.toList = cont [] 1 (uq x (s.data.toList.drop 1)) := hun
      obtain ⟨RES, hR⟩ : ∃ r, unq s.data.toList = r := ⟨_, rfl⟩
      rw [hR] at hun2 ⊢
      have HU : Hid (RES = cont [] 1 (uq x (s.data.toList.drop 1))) := hun2
      clear hun hun2 hR
      have i00 : (0 : Int) < (s.size : Int) := by omega
      have hqb : ((x.toNat : Int) != 39) = false ∨ ((x.toNat : Int) != 39) = true ∧ ((x.toNat : Int) != 34) = false := by
        rcases hq with rfl | rfl
        · left; decide
        · right; decide
      rcases hqb with hqb | ⟨hqb, hqb2⟩
      all_goals
        go_enter Tryd.func28, Tryd.ntmps28
        go_wp2
        go_loopw [5, 6, 7, 8, 9] (fun v a _ _ _ wr => ∃ (k : Nat) (acc : List UInt8), a = .int .i64 (k : Int) ∧ k ≤ s.size + 6 ∧ 1 ≤ k ∧ OwnB w.heap.size wr v acc ∧ Below w.heap.size w wr ∧ acc.length ≤ 4 * k ∧ RES = cont acc k (uq x (s.data.toList.drop k))) (fun _ a _ _ _ _ => s.size + 7 - (RowKit.intOf a).toNat)
        case atStart => exact ⟨1, [], rfl, by omega, Nat.le_refl _, OwnB.nil _ _, Below.refl _ _, by simp, HU.out⟩
        case round =>
          obtain ⟨k, acc, rfl, hk, hk1, hI, hbw, hal, hres⟩ := hrel
          have hsz := hbw.size
          by_cases hlt : k < s.size
          · have ilt : (k : Int) < (s.size : Int) := by omega
            have hdl : (s.data.toList.drop k).length = s.size - k := by rw [List.length_drop, str_len]
            have hdk : s.data.toList.drop k ≠ [] := by
              intro h
              rw [h] at hdl
              simp at hdl
              omega
            have hst := uq_step x (s.data.toList.drop k) hdk
            have hy0 : (s.data.toList.drop k).getD 0 0 = s[k]'hlt := by rw [drop_get0, getD_byte s k hlt]
            rw [hy0] at hst
            have q1 := rq_back (s.data.toList.drop k)
            have q2 := rq_ctl (s.data.toList.drop k)
            have q3 := rq_plain (s.data.toList.drop k)
            rw [hy0] at q1 q2 q3
            have q4 := rq_bad (s.data.toList.drop k)
            obtain ⟨y, hy⟩ : ∃ y, s[k]'hlt = y := ⟨_, rfl⟩
            rw [hy] at hst q1 q2 q3
            clear hy0
            by_cases hxy : y = x
            · rw [if_pos hxy] at hst
              rw [hst] at hres
              have HF : Hid (RES = some (acc, k + 1)) := by
                show _ = _
                rw [hres]
                simp [cont]
              have hb : ((y.toNat : Int) == (x.toNat : Int)) = true := by rw [hxy]; simp
              have hI1 : OwnB w.heap.size wr.drew _ acc := hI
              have hcv := conv_bytes hI1
              clear hst hres hxy hdk q1 q2 q3 q4 hI1
              go_wp2
              go_region
              go_wp2
              go_ret3
              refine ⟨?_, hbw.drew⟩
              rw [HF.out]
              rfl
            · rw [if_neg hxy] at hst
              have hb : ((y.toNat : Int) == (x.toNat : Int)) = false := by
                refine beq_eq_false_iff_ne.2 (fun h => hxy (UInt8.toNat_inj.1 (by omega)))
              have HR : Hid (RES = cont acc k (uq x (s.data.toList.drop k))) := hres
              have hI1 : OwnB w.heap.size wr.drew _ acc := hI
              clear hxy hres
              by_cases h92 : y.toNat = 92
              · rw [q1 h92] at hst
                have cE := fun w1 => escape_any s k w1 hlt hs ((k : Int) + 1) (by simp)
                have hre := rq_le (s.data.toList.drop k)
                have hrw := re_width (s.data.toList.drop k)
                rw [q1 h92] at hre
                obtain ⟨r, d, hrd⟩ : ∃ r d, re (s.data.toList.drop k) = (r, d) := ⟨_, _, rfl⟩
                rw [hrd] at hre hst hrw
                simp only [hrd] at cE
                simp only at hre hst hrw
                obtain ⟨hr1, hd6⟩ := hre
                have CE : Hid (∀ w1, Calls Tryd.prog 43 #[.string s, .int .i64 ((k : Int) + 1)] w1 fun e w' => e = .returned (escR (r, d)) ∧ w' = w1) := cE
                have HS : Hid (uq x (s.data.toList.drop k) = if d = 0 then none else (uq x ((s.data.toList.drop k).drop d)).map fun p => (enc r ++ p.1, d + p.2)) := hst
                have b92 : ((y.toNat : Int) == 92) = true := by rw [h92]; rfl
                clear q1 q2 q3 q4 cE hst hrd h92 hdk
                by_cases hd0 : d = 0
                · have HF : Hid (RES = none) := by
                    show _ = _
                    rw [HR.out, HS.out, if_pos hd0]
                    rfl
                  subst hd0
                  go_wp2
                  go_region
                  go_wp2_with fail
                  refine (CE.out _).mono ?_
                  rintro e w2 ⟨rfl, rfl⟩
                  have eR : escR (r, 0) = .tuple #[.string ⟨#[]⟩, .int .i64 0] := rfl
                  rw [eR]
                  clear eR
                  go_wp2
                  go_ret3
                  refine ⟨?_, hbw.drew⟩
                  rw [HF.out]
                  rfl
                · have HF : Hid (RES = cont (acc ++ enc r) (k + d) (uq x (s.data.toList.drop (k + d)))) := by
                    show _ = _
                    rw [HR.out, HS.out, if_neg hd0, cont_step, List.drop_drop]
                  have hd2 : 2 ≤ d := by omega
                  have hEs : (ByteArray.mk (enc r).toArray).size = (enc r).length := rfl
                  have hl4 := enc_len r
                  obtain ⟨X, hX⟩ : ∃ X, ByteArray.mk (enc r).toArray = X := ⟨_, rfl⟩
                  have hXd : X.data.toList = enc r := by rw [← hX]
                  have hXs : X.size ≤ 4 := by rw [← hX, hEs]; exact hl4.2
                  have eR := escR_some r d hd2
                  rw [hX] at eR
                  obtain ⟨dn, hdn⟩ : ∃ dn : Int, (d : Int) - 1 = dn := ⟨_, rfl⟩
                  rw [hdn] at eR
                  have hdb : (dn == 0) = false := beq_eq_false_iff_ne.2 (by omega)
                  have hd1 : 1 ≤ dn := by omega
                  have hd7 : dn ≤ 6 := by omega
                  have HD : Hid ((k : Int) + 1 + dn = ((k + d : Nat) : Int)) := by show _ = _; omega
                  have HX : Hid (X.data.toList = enc r) := hXd
                  have HE : Hid (escR (r, d) = .tuple #[.string X, .int .i64 dn]) := eR
                  clear hX hXd hEs hrw hd0 hdn eR
                  go_wp2
                  go_region
                  go_wp2_with fail
                  refine (CE.out _).mono ?_
                  rintro e w2 ⟨rfl, rfl⟩
                  rw [HE.out]
                  have hown : wr.drew.ownsRow w.heap.size 5 1 _ acc.length (Lib.byteCells acc) := hI1
                  go_wp2_with (at_builtin; refine Lib.wpList_append_own_string _ rfl _ _ 22 9 rfl w.heap.size 5 i0 Tryd.underlying22 Tryd.underlying9 hi hz0 hz1 hz2 _ _ _ rfl hown X rfl (by unfold maxLen; omega) (by omega) (by exact hsz) ?_; intro v' w3 hown2 hgrow _)
                  have hgrow' : wr.drew.grownBy w3 u5.ownBlock := hgrow
                  have hlt2 := hown.lt
                  have hI3 : OwnB w.heap.size w3 v' (acc ++ enc r) := by
                    unfold OwnB
                    rw [Lib.byteCells_append, List.length_append, ← HX.out, str_len]
                    exact hown2
                  have hbw3 := hbw.drew.grown hgrow' hsz (fun k e => (hlt2 k e).1)
                  clear hgrow hgrow' hown2 hown hlt2
                  go_wp2
                  go_roundw
                  case rel => exact ⟨k + d, acc ++ enc r, by rw [← HD.out], by omega, by omega, hI3, hbw3, by rw [List.length_append]; omega, HF.out⟩
                  case measure => simp [RowKit.intOf]; omega
              · have b92 : ((y.toNat : Int) == 92) = false := beq_eq_false_iff_ne.2 (by omega)
                have cW := width_any s k wr.drew hlt hs (k : Int) rfl
                by_cases hcl : y.toNat < 32 ∨ y.toNat = 127
                · have HF : Hid (RES = none) := by
                    show _ = _
                    rw [HR.out, hst, q2 hcl]
                    rfl
                  have hcl2 : (y.toNat : Int) < 32 ∨ ¬ (y.toNat : Int) < 32 ∧ ((y.toNat : Int) == 127) = true := by
                    by_cases h : y.toNat < 32
                    · left; omega
                    · right; exact ⟨by omega, by rw [show y.toNat = 127 by omega]; rfl⟩
                  clear q1 q2 q3 q4 hst hcl hdk h92
                  rcases hcl2 with hcl2 | ⟨hcl2, hcl3⟩
                  all_goals
                    go_wp2
                    go_region
                    go_wp2_with fail
                    refine cW.mono ?_
                    rintro e w2 ⟨rfl, hb2⟩
                    go_wp2
                    go_ret3
                    refine ⟨?_, hbw.drew.trans (hb2.mono hsz)⟩
                    rw [HF.out]
                    rfl
                · have hc1 : ¬ (y.toNat : Int) < 32 := by omega
                  have hc2 : ((y.toNat : Int) == 127) = false := beq_eq_false_iff_ne.2 (by omega)
                  by_cases hbad : bad (s.data.toList.drop k)
                  · have HF : Hid (RES = none) := by
                      show _ = _
                      rw [HR.out, hst, q4 hbad]
                      rfl
                    have hwd : wd (s.data.toList.drop k) = 0 := by unfold wd; rw [if_pos hbad]
                    rw [hwd] at cW
                    clear q1 q2 q3 q4 hst hcl hdk h92 hbad hwd
                    go_wp2
                    go_region
                    go_wp2_with fail
                    refine cW.mono ?_
                    rintro e w2 ⟨rfl, hb2⟩
                    go_wp2
                    go_ret3
                    refine ⟨?_, hbw.drew.trans (hb2.mono hsz)⟩
                    rw [HF.out]
                    rfl
                  · have hq3 := q3 hcl h92 hbad
                    have hwd : wd (s.data.toList.drop k) = (decodeL (s.data.toList.drop k)).2 := by unfold wd; rw [if_neg hbad]
                    have hen := enc_decode _ hdk hbad
                    have hw1 := decodeL_width (s.data.toList.drop k)
                    have hw4 := width_le4 (s.data.toList.drop k)
                    have hwl := decodeL_le _ hdk
                    rw [hdl] at hwl
                    obtain ⟨r, d, hrd⟩ : ∃ r d, decodeL (s.data.toList.drop k) = (r, d) := ⟨_, _, rfl⟩
                    rw [hq3, hrd] at hst
                    rw [hrd] at hwd hen hw1 hw4 hwl
                    rw [hwd] at cW
                    simp only at hst hwd hen hw1 hw4 hwl cW
                    rw [if_neg (show ¬ d = 0 by omega)] at hst
                    have HF : Hid (RES = cont (acc ++ enc r) (k + d) (uq x (s.data.toList.drop (k + d)))) := by
                      show _ = _
                      rw [HR.out, hst, cont_step, List.drop_drop]
                    have hXd : (s.extract k (k + d)).data.toList = enc r := by rw [extract_sub, hen]
                    have hXs : (s.extract k (k + d)).size = d := by rw [ByteArray.size_extract]; omega
                    have hsl := sub_run s (k : Int) ((k : Int) + (d : Int)) k (k + d) rfl (by simp) (by omega) (by omega)
                    obtain ⟨X, hX⟩ : ∃ X, s.extract k (k + d) = X := ⟨_, rfl⟩
                    rw [hX] at hXd hXs hsl
                    have hXs' : X.size ≤ 4 := by omega
                    have hl4 := enc_len r
                    have hdb : ((d : Int) == 0) = false := beq_eq_false_iff_ne.2 (by omega)
                    have HX : Hid (X.data.toList = enc r) := hXd
                    clear q1 q2 q3 q4 hst hcl hdk h92 hbad hwd hq3 hen hrd hX hXd hXs
                    go_wp2
                    go_region
                    go_wp2_with fail
                    refine cW.mono ?_
                    rintro e w2 ⟨rfl, hb2⟩
                    have hI2 := hI1.below hb2
                    have hbw2 : Below w.heap.size w w2 := hbw.drew.trans (hb2.mono hsz)
                    have hsz2 := hbw2.size
                    have hown : w2.ownsRow w.heap.size 5 1 _ acc.length (Lib.byteCells acc) := hI2
                    clear cW hb2
                    go_wp2_with (at_builtin; refine Lib.wpList_append_own_string _ rfl _ _ 22 9 rfl w.heap.size 5 i0 Tryd.underlying22 Tryd.underlying9 hi hz0 hz1 hz2 _ _ _ rfl hown X rfl (by unfold maxLen; omega) (by omega) (by exact hsz2) ?_; intro v' w3 hown2 hgrow _)
                    have hgrow' : w2.grownBy w3 u5.ownBlock := hgrow
                    have hlt2 := hown.lt
                    have hI3 : OwnB w.heap.size w3 v' (acc ++ enc r) := by
                      unfold OwnB
                      rw [Lib.byteCells_append, List.length_append, ← HX.out, str_len]
                      exact hown2
                    have hbw3 := hbw2.grown hgrow' hsz2 (fun k e => (hlt2 k e).1)
                    clear hgrow hgrow' hown2 hown hlt2
                    go_wp2
                    go_roundw
                    case rel => exact ⟨k + d, acc ++ enc r, by go_num, by omega, by omega, hI3, hbw3, by rw [List.length_append]; omega, HF.out⟩
                    case measure => simp [RowKit.intOf]; omega
          · have hnil : s.data.toList.drop k = [] := List.drop_eq_nil_of_le (by rw [str_len]; omega)
            have HF : Hid (RES = none) := by
              show _ = _
              rw [hres, hnil, uq_nil]
              rfl
            have ilt : ¬ (k : Int) < (s.size : Int) := by omega
            clear hres hnil
            go_wp2
            go_ret3
            refine ⟨?_, hbw⟩
            rw [HF.out]
            rfl
    · rw [if_neg hq] at hun
      rw [hun]
      have b1 : ((x.toNat : Int) != 39) = true := by
        rw [bne_iff_ne]
        intro e
        exact hq (.inl (UInt8.toNat_inj.1 (show x.toNat = 39 by omega)))
      have b2 : ((x.toNat : Int) != 34) = true := by
        rw [bne_iff_ne]
        intro e
        exact hq (.inr (UInt8.toNat_inj.1 (show x.toNat = 34 by omega)))
      have i00 : (0 : Int) < (s.size : Int) := by omega
      clear hun hq
      go_enter Tryd.func28, Tryd.ntmps28
      go_wp2
      go_ret3
      exact ⟨rfl, Below.refl _ _⟩
end Go.Proofs.YtkppnncpejohgaaDoor
