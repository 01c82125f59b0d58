/-
  What letters.readHex, readEscape, readQuoted and Unquote do.
-/
import Derived.Test.YtgillafjccgkdaaDoorLeHex
import Derived.Test.YtgillafjccgkdaaDoorLeLen
namespace Go.Proofs.YtgillafjccgkdaaDoor
open Go.RowKit

theorem extract_list (s : ByteArray) (a b : Nat) : (s.extract a b).data.toList = (s.data.toList.drop a).take (b - a) := by
  rw [ByteArray.data_extract, Array.toList_extract, List.extract_eq_take_drop]

set_option maxHeartbeats 4000000 in
set_option maxRecDepth 100000 in
theorem readHex_any (s : ByteArray) (n : Nat) (hn0 : n ≠ 0) (hn : n ≤ 4) (w : World) (_hs : s.size < 1000000000) (hE : Env w) :
    Calls Tryd.prog 46 #[.string s, .int .i64 (n : Int)] w fun e w' => e = .returned (.tuple #[.int .i32 (((rh s.data.toList n).getD 0 : Nat) : Int), .bool (rh s.data.toList n).isSome]) ∧ Below w.heap.size w w' := by
  have hl : s.data.toList.length = s.size := by rw [Array.length_toList]; rfl
  by_cases hlt : s.size < n
  · have hr : rh s.data.toList n = none := by unfold rh; rw [if_pos (by omega)]
    rw [hr]
    have hi : (s.size : Int) < (n : Int) := by omega
    go_enter Tryd.func46, Tryd.ntmps46
    go_wp2
    go_ret2
    exact ⟨rfl, Below.refl _ _⟩
  · have hr : rh s.data.toList n = hexs 0 (s.extract 0 n).data.toList := by unfold rh; rw [if_neg (by omega), extract_list]; rfl
    have hsz : (s.extract 0 n).size = n := by rw [ByteArray.size_extract]; omega
    have hlt65 : ∀ v, rh s.data.toList n = some v → v < 65536 := fun v hv => rh_lt hv hn
    have hi : (n : Int) ≤ (s.size : Int) := by omega
    have hi0 : (0 : Int) ≤ (n : Int) := by omega
    have c := pub16_any (s.extract 0 n) (by omega) (by omega) w hE
    rw [← hr] at c
    generalize rh s.data.toList n = R at *
    clear hr
    go_enter Tryd.func46, Tryd.ntmps46
    go_wp2_with fail
    refine c.mono ?_
    rintro e w1 ⟨⟨v, N, rfl, hv⟩, hb⟩
    cases R with
    | some r =>
      obtain rfl : v = .nilIface := by
        rcases hv with ⟨_, h⟩ | ⟨h, _⟩
        · exact h
        · cases h
      have hr5 := hlt65 r rfl
      clear hv
      go_wp2
      go_region
      go_wp2
      go_ret2
      exact ⟨rfl, hb.drew⟩
    | none =>
      obtain rfl : v = .iface 89 (.pointer (some ⟨N, 0, none⟩)) := by
        rcases hv with ⟨h, _⟩ | ⟨_, h⟩
        · cases h
        · exact h
      clear hv
      go_wp2
      go_region
      go_wp2
      go_ret2
      exact ⟨rfl, hb.drew⟩

theorem isControl_any (r : Nat) (w : World) (hr : r ≤ 1114111) :
    Calls Tryd.prog 41 #[.int .i32 (r : Int)] w fun e w' => e = .returned (.bool (ctl r)) ∧ w' = w := by
  by_cases h1 : r < 32
  · have e : ctl r = true := by simp [ctl, h1]
    rw [e]
    have i1 : (r : Int) < 32 := by omega
    go_enter Tryd.func41, Tryd.ntmps41
    go_wp2
    go_ret
    exact ⟨rfl, rfl⟩
  · have i1 : ¬ (r : Int) < 32 := by omega
    by_cases h2 : r = 127
    · subst h2
      go_enter Tryd.func41, Tryd.ntmps41
      go_wp2
      go_ret
      exact ⟨rfl, rfl⟩
    · have e : ctl r = false := by simp [ctl, h1, h2]
      rw [e]
      have i2 : ((r : Int) == 127) = false := beq_eq_false_iff_ne.2 (by omega)
      go_enter Tryd.func41, Tryd.ntmps41
      go_wp2
      go_ret
      exact ⟨rfl, rfl⟩

theorem getD_byte (s : ByteArray) (i : Nat) (h : i < s.size) : s.data.toList.getD i 0 = s[i]'h := by
  have h' : i < s.data.toList.length := by rw [Array.length_toList]; exact h
  simp only [List.getD, List.getElem?_eq_getElem h', Option.getD_some]
  rfl
theorem num_some_ok {v most n : Nat} (h1 : v ≤ most) (h2 : v < 55296 ∨ 57344 ≤ v) : num (some v) most n = (v, n) := by simp [num, h1, h2]
theorem validRune_nat (v : Nat) (h : v < 65536) : Lib.validRune (v : Int) = decide (v < 55296 ∨ 57344 ≤ v) := by
  unfold Lib.validRune
  by_cases h2 : v < 55296 ∨ 57344 ≤ v
  · rw [decide_eq_true h2]; apply decide_eq_true; omega
  · rw [decide_eq_false h2]; apply decide_eq_false; omega

set_option maxHeartbeats 8000000 in
set_option maxRecDepth 100000 in
/-- What stands behind a backslash and x or u. -/
theorem readEscape_hex (s : ByteArray) (w : World) (h1 : 1 < s.size) (hs : s.size < 1000000000) (hE : Env w) (isX : Bool) (most n m : Nat) (hc : (s[1]'h1).toNat = if isX then 120 else 117) (hm : most = if isX then 127 else 1114111) (hn : n = if isX then 2 else 4) (hmm : m = n + 2) :
    Calls Tryd.prog 42 #[.string s] w fun e w' => e = .returned (.tuple #[.int .i32 ((num (rh (s.data.toList.drop 2) n) most m).1 : Int), .int .i64 ((num (rh (s.data.toList.drop 2) n) most m).2 : Int)]) ∧ Below w.heap.size w w' := by
  have hex : (s.extract 2 s.size).data.toList = s.data.toList.drop 2 := by
    rw [extract_list, List.take_of_length_le (by rw [List.length_drop, Array.length_toList]; exact Nat.le_refl _)]
  have hlt65 : ∀ v, rh (s.data.toList.drop 2) n = some v → v < 65536 := fun v hv => rh_lt hv (by subst hn; split <;> omega)
  have c := readHex_any (s.extract 2 s.size) n (by subst hn; split <;> omega) (by subst hn; split <;> omega) w (by rw [ByteArray.size_extract]; omega) hE
  rw [hex] at c
  obtain ⟨x, hx⟩ : ∃ x, s[1]'h1 = x := ⟨_, rfl⟩
  rw [hx] at hc
  have hi2 : (2 : Int) ≤ (s.size : Int) := by omega
  generalize rh (s.data.toList.drop 2) n = R at *
  clear hex
  cases isX
  · simp only [Bool.false_eq_true, if_false] at hc hm hn
    subst hm hn hmm
    have c2 : Calls Tryd.prog 46 #[.string (s.extract 2 s.size), .int .i64 4] w fun e w' => e = .returned (.tuple #[.int .i32 ((R.getD 0 : Nat) : Int), .bool R.isSome]) ∧ Below w.heap.size w w' := c
    clear c
    go_enter Tryd.func42, Tryd.ntmps42
    go_wp2_with fail
    refine c2.mono ?_
    rintro e w1 ⟨rfl, hb⟩
    clear c2
    cases R with
    | none =>
      go_wp2
      go_ret2
      exact ⟨rfl, hb⟩
    | some v =>
      have hv := hlt65 v rfl
      have hvr := validRune_nat v hv
      have hi1 : (v : Int) ≤ 1114111 := by omega
      by_cases hok : v < 55296 ∨ 57344 ≤ v
      · have HN : Hid (num (some v) 1114111 (4 + 2) = (v, 4 + 2)) := num_some_ok (by omega) hok
        rw [decide_eq_true hok] at hvr
        clear hok hlt65
        go_wp2_with fail
        refine (Tryd.utf8_ValidRune (v : Int) w1).mono ?_
        rintro e w2 ⟨rfl, rfl⟩
        rw [hvr]
        go_wp2
        go_ret2
        exact ⟨by rw [HN.out]; rfl, hb⟩
      · have HN : Hid (num (some v) 1114111 (4 + 2) = (0, 0)) := by show _ = _; simp [num, hok]
        rw [decide_eq_false hok] at hvr
        clear hok hlt65
        go_wp2_with fail
        refine (Tryd.utf8_ValidRune (v : Int) w1).mono ?_
        rintro e w2 ⟨rfl, rfl⟩
        rw [hvr]
        go_wp2
        go_ret2
        exact ⟨by rw [HN.out]; rfl, hb⟩
  · simp only [if_true] at hc hm hn
    subst hm hn hmm
    have c2 : Calls Tryd.prog 46 #[.string (s.extract 2 s.size), .int .i64 2] w fun e w' => e = .returned (.tuple #[.int .i32 ((R.getD 0 : Nat) : Int), .bool R.isSome]) ∧ Below w.heap.size w w' := c
    clear c
    go_enter Tryd.func42, Tryd.ntmps42
    go_wp2_with fail
    refine c2.mono ?_
    rintro e w1 ⟨rfl, hb⟩
    clear c2
    cases R with
    | none =>
      go_wp2
      go_ret2
      exact ⟨rfl, hb⟩
    | some v =>
      have hv := hlt65 v rfl
      have hvr := validRune_nat v hv
      by_cases hok : v ≤ 127
      · have HN : Hid (num (some v) 127 (2 + 2) = (v, 2 + 2)) := num_some_ok hok (by omega)
        rw [decide_eq_true (by omega)] at hvr
        have hi1 : (v : Int) ≤ 127 := by omega
        clear hok hlt65
        go_wp2_with fail
        refine (Tryd.utf8_ValidRune (v : Int) w1).mono ?_
        rintro e w2 ⟨rfl, rfl⟩
        rw [hvr]
        go_wp2
        go_ret2
        exact ⟨by rw [HN.out]; rfl, hb⟩
      · have HN : Hid (num (some v) 127 (2 + 2) = (0, 0)) := by show _ = _; simp [num, hok]
        have hi1 : ¬ (v : Int) ≤ 127 := by omega
        clear hok hlt65 hvr
        go_wp2
        go_ret2
        exact ⟨by rw [HN.out]; rfl, hb⟩

set_option maxHeartbeats 8000000 in
set_option maxRecDepth 100000 in
theorem readEscape_any (s : ByteArray) (w : World) (hs : s.size < 1000000000) (hE : Env w) :
    Calls Tryd.prog 42 #[.string s] w fun e w' => e = .returned (.tuple #[.int .i32 ((re s.data.toList).1 : Int), .int .i64 ((re s.data.toList).2 : Int)]) ∧ Below w.heap.size w w' := by
  by_cases h1 : 1 < s.size
  · have hl : ¬ s.data.toList.length < 2 := by rw [str_len]; omega
    unfold re
    rw [if_neg hl, getD_byte s 1 h1]
    have hi1 : (2 : Int) ≤ (s.size : Int) := by omega
    have cX := readEscape_hex s w h1 hs hE true 127 2 4
    have cU := readEscape_hex s w h1 hs hE false 1114111 4 6
    obtain ⟨x, hx⟩ : ∃ x, s[1]'h1 = x := ⟨_, rfl⟩
    rw [hx] at cX cU ⊢
    obtain ⟨k, hk⟩ : ∃ k, x.toNat = k := ⟨_, rfl⟩
    rw [hk] at cX cU ⊢
    by_cases e1 : k = 92 ∨ k = 39 ∨ k = 34
    · rw [if_pos e1]
      clear cX cU
      rcases e1 with e1 | e1 | e1
      all_goals
        subst e1
        go_enter Tryd.func42, Tryd.ntmps42
        go_wp2
        go_ret2
        exact ⟨rfl, Below.refl _ _⟩
    · rw [if_neg e1]
      by_cases e2 : k = 110
      · rw [if_pos e2]
        clear cX cU
        subst e2
        go_enter Tryd.func42, Tryd.ntmps42
        go_wp2
        go_ret2
        exact ⟨rfl, Below.refl _ _⟩
      · rw [if_neg e2]
        by_cases e3 : k = 116
        · rw [if_pos e3]
          clear cX cU
          subst e3
          go_enter Tryd.func42, Tryd.ntmps42
          go_wp2
          go_ret2
          exact ⟨rfl, Below.refl _ _⟩
        · rw [if_neg e3]
          by_cases e4 : k = 120
          · rw [if_pos e4]
            exact cX (by simpa using e4) rfl rfl rfl
          · rw [if_neg e4]
            by_cases e5 : k = 117
            · rw [if_pos e5]
              exact cU (by simpa using e5) rfl rfl rfl
            · rw [if_neg e5]
              clear cX cU
              have b1 : ((k : Int) == 92) = false := beq_eq_false_iff_ne.2 (by omega)
              have b2 : ((k : Int) == 39) = false := beq_eq_false_iff_ne.2 (by omega)
              have b3 : ((k : Int) == 34) = false := beq_eq_false_iff_ne.2 (by omega)
              have b4 : ((k : Int) == 110) = false := beq_eq_false_iff_ne.2 (by omega)
              have b5 : ((k : Int) == 116) = false := beq_eq_false_iff_ne.2 (by omega)
              have b6 : ((k : Int) == 120) = false := beq_eq_false_iff_ne.2 (by omega)
              have b7 : ((k : Int) == 117) = false := beq_eq_false_iff_ne.2 (by omega)
              have hk256 : k < 256 := by rw [← hk]; exact x.toNat_lt
              clear e1 e2 e3 e4 e5
              go_enter Tryd.func42, Tryd.ntmps42
              go_wp2
              go_ret2
              exact ⟨rfl, Below.refl _ _⟩
  · have hl : s.data.toList.length < 2 := by rw [str_len]; omega
    unfold re
    rw [if_pos hl]
    have hi : (s.size : Int) < 2 := by omega
    go_enter Tryd.func42, Tryd.ntmps42
    go_wp2
    go_ret2
    exact ⟨rfl, Below.refl _ _⟩
end Go.Proofs.YtgillafjccgkdaaDoor
