/-
  What the reference's escape, width and Unquote do.
-/
import Derived.Test.YtkppnncpejohgaaDoorLeRefD
namespace Go.Proofs.YtkppnncpejohgaaDoor
open Go.RowKit Go.Lib

theorem drop_get (l : List UInt8) (a k : Nat) : (l.drop a).getD k 0 = l.getD (a + k) 0 := by simp [List.getD, List.getElem?_drop]

set_option maxHeartbeats 8000000 in
set_option maxRecDepth 100000 in
theorem escape_any (s : ByteArray) (a : Nat) (w : World) (ha : a < s.size) (hs : s.size ≤ 70000) (i : Int) (hi : i = ((a + 1 : Nat) : Int)) :
    Calls Tryd.prog 43 #[.string s, .int .i64 i] w fun e w' => e = .returned (escR (re (s.data.toList.drop a))) ∧ w' = w := by
  have hi3 : 0 ≤ i := by omega
  have hi4 : i ≤ 70000 := by omega
  by_cases h1 : a + 1 < s.size
  · have hl : ¬ (s.data.toList.drop a).length < 2 := by rw [List.length_drop, str_len]; omega
    unfold re
    rw [if_neg hl, drop_get, getD_byte s (a + 1) h1, List.drop_drop]
    have cX := escape_hex s a w h1 hs true 127 2 4
    have cU := escape_hex s a w h1 hs false 1114111 4 6
    have hidx := idx_run s i (a + 1) h1 hi
    have hsl := sub_run s i (i + 1) (a + 1) (a + 2) hi (by omega) (by omega) (by omega)
    rw [show a + 2 = a + 1 + 1 from rfl, extract_one s (a + 1) h1] at hsl
    have hi2 : ¬ (s.size : Int) ≤ i := by omega
    obtain ⟨x, hx⟩ : ∃ x, s[a + 1]'h1 = x := ⟨_, rfl⟩
    rw [hx] at cX cU hidx hsl ⊢
    have heb := fun h => enc_byte x h
    obtain ⟨k, hk⟩ : ∃ k, x.toNat = k := ⟨_, rfl⟩
    rw [hk] at cX cU hidx heb ⊢
    by_cases e1 : k = 92 ∨ k = 39 ∨ k = 34
    · rw [if_pos e1]
      have HE : Hid (escR (k, 2) = .tuple #[.string ⟨#[x]⟩, .int .i64 1]) := by
        show _ = _
        unfold escR
        rw [if_neg (by simp), heb (by omega)]
        rfl
      clear cX cU hi hx hk heb
      rcases e1 with e1 | e1 | e1
      all_goals
        subst e1
        go_enter Tryd.func43, Tryd.ntmps43
        go_wp2
        go_ret2
        exact ⟨by rw [HE.out]; rfl, rfl⟩
    · rw [if_neg e1]
      by_cases e2 : k = 110
      · rw [if_pos e2]
        clear cX cU hi hx hk heb hsl
        subst e2
        go_enter Tryd.func43, Tryd.ntmps43
        go_wp2
        go_ret2
        exact ⟨rfl, rfl⟩
      · rw [if_neg e2]
        by_cases e3 : k = 116
        · rw [if_pos e3]
          clear cX cU hi hx hk heb hsl
          subst e3
          go_enter Tryd.func43, Tryd.ntmps43
          go_wp2
          go_ret2
          exact ⟨rfl, rfl⟩
        · rw [if_neg e3]
          by_cases e4 : k = 120
          · rw [if_pos e4]
            exact cX (by simpa using e4) rfl rfl rfl i hi
          · rw [if_neg e4]
            by_cases e5 : k = 117
            · rw [if_pos e5]
              exact cU (by simpa using e5) rfl rfl rfl i hi
            · rw [if_neg e5]
              have b1 : ((k : Int) == 92) = false := beq_eq_false_iff_ne.2 (by omega)
              have b2 : ((k : Int) == 39) = false := beq_eq_false_iff_ne.2 (by omega)
              have b3 : ((k : Int) == 34) = false := beq_eq_false_iff_ne.2 (by omega)
              have b4 : ((k : Int) == 110) = false := beq_eq_false_iff_ne.2 (by omega)
              have b5 : ((k : Int) == 116) = false := beq_eq_false_iff_ne.2 (by omega)
              have b6 : ((k : Int) == 120) = false := beq_eq_false_iff_ne.2 (by omega)
              have b7 : ((k : Int) == 117) = false := beq_eq_false_iff_ne.2 (by omega)
              clear cX cU hi hx heb hsl e1 e2 e3 e4 e5 hk
              go_enter Tryd.func43, Tryd.ntmps43
              go_wp2
              go_ret2
              exact ⟨rfl, rfl⟩
  · have hl : (s.data.toList.drop a).length < 2 := by rw [List.length_drop, str_len]; omega
    unfold re
    rw [if_pos hl]
    have hi2 : (s.size : Int) ≤ i := by omega
    clear hi
    go_enter Tryd.func43, Tryd.ntmps43
    go_wp2
    go_ret2
    exact ⟨rfl, rfl⟩

/-- Do the first n bytes make one rune? -/
def oneAt (l : List UInt8) (n : Nat) : Prop := (rl (l.take n)).length = 1 ∧ mend (l.take n) = l.take n
theorem oneAt_iff (l : List UInt8) (n : Nat) (h0 : 1 ≤ n) (hn : n ≤ l.length) : oneAt l n ↔ (¬ bad l ∧ (decodeL l).2 = n) := by
  have hne : l ≠ [] := by intro h; subst h; simp at hn; omega
  constructor
  · rintro ⟨h1, h2⟩
    have htl : (l.take n).length = n := by rw [List.length_take]; omega
    have htne : l.take n ≠ [] := by intro h; rw [h] at htl; simp at htl; omega
    have hst := rl_step (l.take n) htne
    rw [hst, List.length_cons] at h1
    have hrest : rl ((l.take n).drop (decodeL (l.take n)).2) = [] := List.eq_nil_of_length_eq_zero (by omega)
    have hm : mend (l.take n) = enc (decodeL (l.take n)).1 := by
      unfold mend
      rw [hst, hrest]
      simp [encs]
    rw [hm] at h2
    have hr := decodeL_isRune (l.take n)
    have hl : l = enc (decodeL (l.take n)).1 ++ l.drop n := by rw [h2, List.take_append_drop]
    have hd := decode_enc _ hr (l.drop n)
    have hb := enc_not_bad _ hr (l.drop n)
    rw [← hl] at hd hb
    refine ⟨hb, ?_⟩
    rw [hd, h2, htl]
  · rintro ⟨hb, hw⟩
    have he := enc_decode l hne hb
    rw [hw] at he
    have hr := decodeL_isRune l
    have h1 : rl (l.take n) = [(decodeL l).1] := by
      have := rl_encs [(decodeL l).1] (by simpa using hr)
      rw [← he]
      simpa [encs] using this
    refine ⟨by rw [h1]; rfl, ?_⟩
    unfold mend
    rw [h1]
    simpa [encs] using he
/-- How many bytes the rune at the head has; 0: none begins there. -/
def wd (l : List UInt8) : Nat := if bad l then 0 else (decodeL l).2
theorem OwnB.below {B : Nat} {w w' : World} {v : Value} {bs : List UInt8} (h : OwnB B w v bs) (hb : Below w.heap.size w w') : OwnB B w' v bs := by
  refine ⟨h.1, ?_⟩
  rcases h.2 with h4 | ⟨g, cap, cur, e1, e2, e3, e4⟩
  · exact .inl h4
  · exact .inr ⟨g, cap, cur, e1, e2, (hb.block g (Array.getElem?_eq_some_iff.1 e3).1).trans e3, e4⟩

set_option maxHeartbeats 8000000 in
set_option maxRecDepth 100000 in
theorem width_any (s : ByteArray) (a : Nat) (w : World) (ha : a < s.size) (hs : s.size ≤ 70000) (i : Int) (hi : i = (a : Int)) :
    Calls Tryd.prog 44 #[.string s, .int .i64 i] w fun e w' => e = .returned (.int .i64 (wd (s.data.toList.drop a) : Int)) ∧ Below w.heap.size w w' := by
  subst hi
  have hlen : (s.data.toList.drop a).length = s.size - a := by rw [List.length_drop, str_len]
  have hne : s.data.toList.drop a ≠ [] := by intro h; rw [h] at hlen; simp at hlen; omega
  have hw4 := width_le4 (s.data.toList.drop a)
  have hwl := decodeL_le _ hne
  rw [hlen] at hwl
  have hw1 := decodeL_width (s.data.toList.drop a)
  have hone := oneAt_iff (s.data.toList.drop a)
  rw [hlen] at hone
  obtain ⟨l, hl⟩ : ∃ l, s.data.toList.drop a = l := ⟨_, rfl⟩
  rw [hl] at hw4 hwl hw1 hone ⊢
  obtain ⟨WD, hWD⟩ : ∃ x, wd l = x := ⟨_, rfl⟩
  rw [hWD]
  have HW : Hid (wd l = WD) := hWD
  have HO : Hid (∀ n, 1 ≤ n → n ≤ s.size - a → (oneAt l n ↔ (¬ bad l ∧ (decodeL l).2 = n))) := hone
  have HL : Hid (s.data.toList.drop a = l) := hl
  clear hWD hone hl hne hlen
  go_enter Tryd.func44, Tryd.ntmps44
  go_wp2
  go_loopw [5, 6] (fun n _ wr => ∃ k : Nat, n = .int .i64 (k : Int) ∧ 1 ≤ k ∧ k ≤ 5 ∧ Below w.heap.size w wr ∧ ∀ m, 1 ≤ m → m < k → ¬ (¬ bad l ∧ (decodeL l).2 = m)) (fun n _ _ => 5 - (RowKit.intOf n).toNat)
  case atStart => exact ⟨1, rfl, Nat.le_refl _, by omega, Below.refl _ _, fun m h1 h2 => by omega⟩
  case round =>
    obtain ⟨k, rfl, hk1, hk5, hbw, hno⟩ := hrel
    have HN : Hid (∀ m, 1 ≤ m → m < k → ¬ (¬ bad l ∧ (decodeL l).2 = m)) := hno
    clear hno
    by_cases hk : k ≤ 4 ∧ a + k ≤ s.size
    · obtain ⟨hk4, hka⟩ := hk
      have ik4 : (k : Int) ≤ 4 := by omega
      have ika : (a : Int) + (k : Int) ≤ (s.size : Int) := by omega
      have hsl := sub_run s (a : Int) ((a : Int) + (k : Int)) a (a + k) rfl (by omega) (by omega) hka
      have hex : (s.extract a (a + k)).data.toList = l.take k := by rw [extract_sub, HL.out]
      have hexs : (s.extract a (a + k)).size = k := by rw [ByteArray.size_extract]; omega
      obtain ⟨X, hX⟩ : ∃ X, s.extract a (a + k) = X := ⟨_, rfl⟩
      rw [hX] at hex hexs hsl
      have cP := pieces_any X wr (by omega)
      rw [hex] at cP
      have hrl := rl_le (l.take k)
      have hrl2 : (rl (l.take k)).length ≤ 4 := Nat.le_trans hrl (by rw [List.length_take]; omega)
      have HX : Hid (X.data.toList = l.take k) := hex
      clear hX hex hexs hrl
      obtain ⟨rs, hrs⟩ : ∃ rs, rl (l.take k) = rs := ⟨_, rfl⟩
      rw [hrs] at cP hrl2
      have HRS : Hid (rl (l.take k) = rs) := hrs
      clear hrs
      by_cases hl1 : rs.length = 1
      · have bl1 : (((rs.length : Nat) : Int) == 1) = true := by rw [hl1]; rfl
        by_cases hmd : mend (l.take k) = l.take k
        · have HF : Hid (WD = k) := by
            show _ = _
            obtain ⟨h1, h2⟩ := (HO.out k hk1 (by omega)).1 ⟨by rw [HRS.out]; exact hl1, hmd⟩
            rw [← HW.out]
            unfold wd
            rw [if_neg h1, h2]
          have heq : ((ByteArray.mk (encs rs).toArray).toList == X.toList) = true := by
            rw [str_eq_list, HX.out, ← HRS.out]
            exact decide_eq_true hmd
          obtain ⟨M, hM⟩ : ∃ M, ByteArray.mk (encs rs).toArray = M := ⟨_, rfl⟩
          rw [hM] at heq
          go_wp2_with fail
          refine cP.mono ?_
          rintro e w2 ⟨v, rfl, hR, hb⟩
          have hR2 : Runes (wr.heap.size + 1) w2.drew v rs := hR
          have hcv := conv_runes hR
          have hcv2 := conv_runes hR2
          rw [hM] at hcv hcv2
          obtain ⟨sa, cap, rfl, _⟩ := hR.form
          have hbw2 : Below w.heap.size w w2 := hbw.trans (hb.mono hbw.size)
          clear hR hR2 hb hM hmd hl1 cP
          go_wp2
          go_region
          go_wp2
          go_ret
          exact ⟨by rw [HF.out]; rfl, hbw2.drew⟩
        · have heq : ((ByteArray.mk (encs rs).toArray).toList == X.toList) = false := by
            rw [str_eq_list, HX.out, ← HRS.out]
            exact decide_eq_false hmd
          have HN2 : Hid (∀ m, 1 ≤ m → m < k + 1 → ¬ (¬ bad l ∧ (decodeL l).2 = m)) := by
            intro m h1 h2
            by_cases e : m = k
            · subst e
              exact fun h => hmd ((HO.out m hk1 (by omega)).2 h).2
            · exact HN.out m h1 (by omega)
          obtain ⟨M, hM⟩ : ∃ M, ByteArray.mk (encs rs).toArray = M := ⟨_, rfl⟩
          rw [hM] at heq
          go_wp2_with fail
          refine cP.mono ?_
          rintro e w2 ⟨v, rfl, hR, hb⟩
          have hR2 : Runes (wr.heap.size + 1) w2.drew v rs := hR
          have hcv := conv_runes hR
          have hcv2 := conv_runes hR2
          rw [hM] at hcv hcv2
          obtain ⟨sa, cap, rfl, _⟩ := hR.form
          have hbw2 : Below w.heap.size w w2 := hbw.trans (hb.mono hbw.size)
          clear hR hR2 hb hM hmd hl1 cP HN
          go_wp2
          go_region
          go_wp2
          go_roundw
          case rel => exact ⟨k + 1, by go_num, by omega, by omega, hbw2.drew, HN2.out⟩
          case measure => simp [RowKit.intOf]; omega
      · have bl1 : (((rs.length : Nat) : Int) == 1) = false := beq_eq_false_iff_ne.2 (by omega)
        have HN2 : Hid (∀ m, 1 ≤ m → m < k + 1 → ¬ (¬ bad l ∧ (decodeL l).2 = m)) := by
          intro m h1 h2
          by_cases e : m = k
          · subst e
            intro h
            have := ((HO.out m hk1 (by omega)).2 h).1
            rw [HRS.out] at this
            exact hl1 this
          · exact HN.out m h1 (by omega)
        go_wp2_with fail
        refine cP.mono ?_
        rintro e w2 ⟨v, rfl, hR, hb⟩
        obtain ⟨sa, cap, rfl, _⟩ := hR.form
        have hbw2 : Below w.heap.size w w2 := hbw.trans (hb.mono hbw.size)
        clear hR hb hl1 cP HN
        go_wp2
        go_region
        go_wp2
        go_roundw
        case rel => exact ⟨k + 1, by go_num, by omega, by omega, hbw2.drew, HN2.out⟩
        case measure => simp [RowKit.intOf]; omega
    · have HF : Hid (WD = 0) := by
        show _ = _
        rw [← HW.out]
        unfold wd
        by_cases hb : bad l
        · rw [if_pos hb]
        · exact absurd ⟨hb, rfl⟩ (HN.out _ hw1 (by omega))
      have hc : ¬ (k : Int) ≤ 4 ∨ (k : Int) ≤ 4 ∧ ¬ (a : Int) + (k : Int) ≤ (s.size : Int) := by omega
      clear hk HN
      rcases hc with hc | ⟨hc, hc2⟩
      all_goals
        go_wp2
        go_ret
        exact ⟨by rw [HF.out]; rfl, hbw⟩
end Go.Proofs.YtkppnncpejohgaaDoor
