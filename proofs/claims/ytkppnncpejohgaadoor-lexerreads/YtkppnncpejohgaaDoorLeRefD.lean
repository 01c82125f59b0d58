/-
  What the reference's digits, escape and width do.
-/
import Derived.Test.YtkppnncpejohgaaDoorLeAwake
import Derived.Test.YtkppnncpejohgaaDoorLeBytes
namespace Go.Proofs.YtkppnncpejohgaaDoor
open Go.RowKit Go.Lib

/-- An option's number; -1: none. -/
def optI : Option Nat → Int
  | some v => (v : Int)
  | none => -1

theorem hexd_dec {c : Nat} (h0 : 48 ≤ c) (h1 : c ≤ 57) : hexd c = some (c - 48) := by unfold hexd; rw [if_pos ⟨h0, h1⟩]
theorem hexd_low {c : Nat} (h0 : 97 ≤ c) (h1 : c ≤ 102) : hexd c = some (c - 87) := by unfold hexd; rw [if_neg (by omega), if_pos ⟨h0, h1⟩]
theorem hexd_up {c : Nat} (h0 : 65 ≤ c) (h1 : c ≤ 70) : hexd c = some (c - 55) := by unfold hexd; rw [if_neg (by omega), if_neg (by omega), if_pos ⟨h0, h1⟩]
theorem hexd_no {c : Nat} (h0 : ¬ (48 ≤ c ∧ c ≤ 57)) (h1 : ¬ (97 ≤ c ∧ c ≤ 102)) (h2 : ¬ (65 ≤ c ∧ c ≤ 70)) : hexd c = none := by unfold hexd; rw [if_neg h0, if_neg h1, if_neg h2]
theorem rh_eq (l : List UInt8) (n : Nat) (h : n ≤ l.length) : rh l n = hexs 0 (l.take n) := by unfold rh; rw [if_neg (by omega)]
theorem drop_take_step (l : List UInt8) (a j n : Nat) (hj : j < n) (hn : a + n ≤ l.length) : ((l.drop a).take n).drop j = (l.getD (a + j) 0) :: ((l.drop a).take n).drop (j + 1) := by
  have hl : ((l.drop a).take n).length = n := by rw [List.length_take, List.length_drop]; omega
  rw [List.drop_eq_getElem_cons (by omega)]
  congr 1
  simp [List.getD, List.getElem?_eq_getElem (show a + j < l.length by omega)]

theorem idx_run (s : ByteArray) (i : Int) (n : Nat) (h : n < s.size) (hi : i = (n : Int)) (wx : World) : (Instr.index 9 (.string s) (.int .i64 i)).run Tryd.prog wx = .ok (.int .u8 (((s[n]'h).toNat : Nat) : Int)) wx := by
  subst hi
  rw [run_index_string wx 9 s .i64 _ Tryd.underlying9, dif_pos ⟨by omega, by omega⟩]
  rfl
theorem sub_run (s : ByteArray) (i j : Int) (a b : Nat) (hi : i = (a : Int)) (hj : j = (b : Int)) (h1 : a ≤ b) (h2 : b ≤ s.size) (wx : World) : (Instr.slice 9 (.string s) (some (.int .i64 i)) (some (.int .i64 j)) none).run Tryd.prog wx = .ok (.string (s.extract a b)) wx := by
  subst hi hj
  rw [run_slice_string wx 9 s .i64 .i64 _ _ Tryd.underlying9 (by omega) (by omega) (by omega)]
  rfl

set_option maxHeartbeats 8000000 in
set_option maxRecDepth 100000 in
theorem digits_any (s : ByteArray) (a n : Nat) (w : World) (hs : s.size ≤ 70000) (ha : a ≤ 80000) (hn0 : n ≠ 0) (hn : n ≤ 4) (i : Int) (hi : i = (a : Int)) (j : Int) (hj : j = (n : Int)) :
    Calls Tryd.prog 53 #[.string s, .int .i64 i, .int .i64 j] w fun e w' => e = .returned (.int .i64 (optI (rh (s.data.toList.drop a) n))) ∧ w' = w := by
  subst hi hj
  by_cases hlt : s.size < a + n
  · have hr : rh (s.data.toList.drop a) n = none := by unfold rh; rw [if_pos (by rw [List.length_drop, str_len]; omega)]
    have ilt : (s.size : Int) < (a : Int) + (n : Int) := by omega
    rw [hr]
    go_enter Tryd.func53, Tryd.ntmps53
    go_wp2
    go_ret
    exact ⟨rfl, rfl⟩
  · have hl : s.data.toList.length = s.size := str_len s
    have hr : rh (s.data.toList.drop a) n = hexs 0 ((s.data.toList.drop a).take n) := rh_eq _ _ (by rw [List.length_drop, str_len]; omega)
    rw [hr]
    have ilt : ¬ (s.size : Int) < (a : Int) + (n : Int) := by omega
    obtain ⟨R, hR⟩ : ∃ R, optI (hexs 0 ((s.data.toList.drop a).take n)) = R := ⟨_, rfl⟩
    have HR : Hid (optI (hexs 0 ((s.data.toList.drop a).take n)) = R) := hR
    rw [hR]
    clear hR hr hl
    go_enter Tryd.func53, Tryd.ntmps53
    go_wp2
    go_loop [7, 8, 9] (fun v p _ => ∃ (k acc : Nat) (z : Int), v = .int .i64 z ∧ p = .int .i64 ((a : Int) + (k : Int)) ∧ k ≤ n ∧ Hid (z = (acc : Int) ∧ acc < 16 ^ k ∧ hexs 0 ((s.data.toList.drop a).take n) = hexs acc (((s.data.toList.drop a).take n).drop k)))
      (fun _ p _ => a + n - (RowKit.intOf p).toNat)
    case atStart => exact ⟨0, 0, 0, rfl, by simp, by omega, rfl, by decide, rfl⟩
    case round =>
      obtain ⟨k, acc, z, rfl, rfl, hk, hh⟩ := hrel
      by_cases hkn : k < n
      · have hin : a + k < s.size := by omega
        obtain ⟨hz, hacc, hdec⟩ := hh.out
        rw [drop_take_step s.data.toList a k n hkn (by rw [str_len]; omega), getD_byte s (a + k) hin] at hdec
        clear hh
        have hidx : ∀ wx, (Instr.index 9 (.string s) (.int .i64 ((a : Int) + (k : Int)))).run Tryd.prog wx = .ok (.int .u8 (((s[a + k]'hin).toNat : Nat) : Int)) wx := by
          intro wx
          exact idx_run s _ (a + k) hin (by simp) wx
        generalize s[a + k]'hin = c at hidx hdec
        have hpb := pow_bd k n hkn hn
        have hps : 16 ^ (k + 1) = 16 ^ k * 16 := Nat.pow_succ ..
        have z0 : 0 ≤ z := by omega
        have z1 : z ≤ 4095 := by omega
        have hc256 : c.toNat < 256 := c.toNat_lt
        have ikn : (a : Int) + (k : Int) < (a : Int) + (n : Int) := by omega
        by_cases hd : 48 ≤ c.toNat ∧ c.toNat ≤ 57
        · have hF := hexs_some acc _ c (((s.data.toList.drop a).take n).drop (k + 1)) (hexd_dec hd.1 hd.2)
          have HN : Hid (16 * z + ((c.toNat : Int) - 48) = ((16 * acc + (c.toNat - 48) : Nat) : Int) ∧ 16 * acc + (c.toNat - 48) < 16 ^ (k + 1) ∧ hexs 0 ((s.data.toList.drop a).take n) = hexs (16 * acc + (c.toNat - 48)) (((s.data.toList.drop a).take n).drop (k + 1))) := Lib.hid ⟨by omega, by omega, hdec.trans hF⟩
          have id0 : (48 : Int) ≤ (c.toNat : Int) := by omega
          have id1 : (c.toNat : Int) ≤ 57 := by omega
          clear hF hdec hz hacc hps hpb hd
          go_wp2
          go_round
          case rel => exact ⟨k + 1, _, _, rfl, by go_num, by omega, HN⟩
          case measure => simp [RowKit.intOf]; omega
        · by_cases hd2 : 97 ≤ c.toNat ∧ c.toNat ≤ 102
          · have hF := hexs_some acc _ c (((s.data.toList.drop a).take n).drop (k + 1)) (hexd_low hd2.1 hd2.2)
            have HN : Hid (16 * z + ((c.toNat : Int) - 97) + 10 = ((16 * acc + (c.toNat - 87) : Nat) : Int) ∧ 16 * acc + (c.toNat - 87) < 16 ^ (k + 1) ∧ hexs 0 ((s.data.toList.drop a).take n) = hexs (16 * acc + (c.toNat - 87)) (((s.data.toList.drop a).take n).drop (k + 1))) := Lib.hid ⟨by omega, by omega, hdec.trans hF⟩
            have id0 : (97 : Int) ≤ (c.toNat : Int) := by omega
            have id1 : (c.toNat : Int) ≤ 102 := by omega
            clear hF hdec hz hacc hps hpb hd hd2
            go_wp2
            go_round
            case rel => exact ⟨k + 1, _, _, rfl, by go_num, by omega, HN⟩
            case measure => simp [RowKit.intOf]; omega
          · by_cases hd3 : 65 ≤ c.toNat ∧ c.toNat ≤ 70
            · have hF := hexs_some acc _ c (((s.data.toList.drop a).take n).drop (k + 1)) (hexd_up hd3.1 hd3.2)
              have HN : Hid (16 * z + ((c.toNat : Int) - 65) + 10 = ((16 * acc + (c.toNat - 55) : Nat) : Int) ∧ 16 * acc + (c.toNat - 55) < 16 ^ (k + 1) ∧ hexs 0 ((s.data.toList.drop a).take n) = hexs (16 * acc + (c.toNat - 55)) (((s.data.toList.drop a).take n).drop (k + 1))) := Lib.hid ⟨by omega, by omega, hdec.trans hF⟩
              have id0 : (65 : Int) ≤ (c.toNat : Int) := by omega
              have id1 : (c.toNat : Int) ≤ 70 := by omega
              clear hF hdec hz hacc hps hpb hd hd2 hd3
              go_wp2
              go_round
              case rel => exact ⟨k + 1, _, _, rfl, by go_num, by omega, HN⟩
              case measure => simp [RowKit.intOf]; omega
            · have hF := hexs_none acc c (((s.data.toList.drop a).take n).drop (k + 1)) (hexd_no hd hd2 hd3)
              have HN : Hid (R = -1) := by
                show _ = _
                rw [← HR.out, hdec, hF]
                rfl
              have id1 : ¬ (48 : Int) ≤ (c.toNat : Int) ∨ (48 : Int) ≤ (c.toNat : Int) ∧ ¬ (c.toNat : Int) ≤ 57 := by omega
              have id2 : ¬ (97 : Int) ≤ (c.toNat : Int) ∨ (97 : Int) ≤ (c.toNat : Int) ∧ ¬ (c.toNat : Int) ≤ 102 := by omega
              have id3 : ¬ (65 : Int) ≤ (c.toNat : Int) ∨ (65 : Int) ≤ (c.toNat : Int) ∧ ¬ (c.toNat : Int) ≤ 70 := by omega
              clear hF hdec hz hacc hps hpb hd hd2 hd3
              rcases id1 with id1 | ⟨id1, id1'⟩ <;> rcases id2 with id2 | ⟨id2, id2'⟩ <;> rcases id3 with id3 | ⟨id3, id3'⟩
              all_goals try (exfalso; omega)
              all_goals
                go_wp2
                go_ret
                exact ⟨by rw [HN.out]; rfl, rfl⟩
      · obtain rfl : k = n := by omega
        have ikn : ¬ (a : Int) + (k : Int) < (a : Int) + (k : Int) := by omega
        have HN : Hid (z = R) := by
          obtain ⟨hz, hacc, hdec⟩ := hh.out
          show _ = _
          rw [← HR.out, hdec, List.drop_eq_nil_of_le (by rw [List.length_take]; omega), hz]
          rfl
        clear hh
        go_wp2
        go_ret
        exact ⟨by rw [HN.out]; rfl, rfl⟩

/-- What the reference's escape answers. -/
def escR (p : Nat × Nat) : Value := if p.2 = 0 then .tuple #[.string ⟨#[]⟩, .int .i64 0] else .tuple #[.string ⟨(enc p.1).toArray⟩, .int .i64 ((p.2 : Int) - 1)]
theorem escR_zero : escR (0, 0) = .tuple #[.string ⟨#[]⟩, .int .i64 0] := rfl
theorem extract_one (s : ByteArray) (a : Nat) (h : a < s.size) : s.extract a (a + 1) = ⟨#[s[a]'h]⟩ := by
  have e : (s.extract a (a + 1)).data.toList = [s[a]'h] := by
    have hl : a < s.data.toList.length := by rw [str_len]; exact h
    rw [extract_sub, List.drop_eq_getElem_cons hl, List.take_succ_cons, List.take_zero]
    rfl
  have e2 : (s.extract a (a + 1)).data = #[s[a]'h] := by
    rw [← Array.toList_inj]
    exact e
  cases hx : s.extract a (a + 1) with
  | mk d => rw [hx] at e2; subst e2; rfl
theorem enc_byte (x : UInt8) (h : x.toNat < 128) : enc x.toNat = [x] := by rw [enc_ascii _ h]; simp

set_option maxHeartbeats 8000000 in
set_option maxRecDepth 100000 in
/-- .. behind x or u. -/
theorem escape_hex (s : ByteArray) (a : Nat) (w : World) (h1 : a + 1 < s.size) (hs : s.size ≤ 70000) (isX : Bool) (most n m : Nat) (hc : (s[a + 1]'h1).toNat = if isX then 120 else 117) (hm : most = if isX then 127 else 1114111) (hn : n = if isX then 2 else 4) (hmm : m = n + 2) (i : Int) (hi : i = ((a + 1 : Nat) : Int)) :
    Calls Tryd.prog 43 #[.string s, .int .i64 i] w fun e w' => e = .returned (escR (num (rh (s.data.toList.drop (a + 2)) n) most m)) ∧ w' = w := by
  have hidx := idx_run s i (a + 1) h1 hi
  have hlt65 : ∀ v, rh (s.data.toList.drop (a + 2)) n = some v → v < 65536 := fun v hv => rh_lt hv (by subst hn; split <;> omega)
  have c := digits_any s (a + 2) n w hs (by omega) (by subst hn; split <;> omega) (by subst hn; split <;> omega) (i + 1) (by omega) (n : Int) rfl
  obtain ⟨x, hx⟩ : ∃ x, s[a + 1]'h1 = x := ⟨_, rfl⟩
  rw [hx] at hc
  rw [hx] at hidx
  have hi2 : ¬ (s.size : Int) ≤ i := by omega
  have hi3 : 0 ≤ i := by omega
  have hi4 : i ≤ 70000 := by omega
  generalize rh (s.data.toList.drop (a + 2)) n = R at *
  clear hi hx
  cases isX
  · simp only [Bool.false_eq_true, if_false] at hc hm hn
    subst hm hn hmm
    rw [hc] at hidx
    have c2 : Calls Tryd.prog 53 #[.string s, .int .i64 (i + 1), .int .i64 4] w fun e w' => e = .returned (.int .i64 (optI R)) ∧ w' = w := c
    clear c hc
    cases R with
    | none =>
      have hq : optI none = -1 := rfl
      rw [hq] at c2
      clear hq
      go_enter Tryd.func43, Tryd.ntmps43
      go_wp2_with fail
      refine c2.mono ?_
      rintro e w1 ⟨rfl, rfl⟩
      go_wp2
      go_ret2
      exact ⟨rfl, rfl⟩
    | some v =>
      have hv := hlt65 v rfl
      have hq : optI (some v) = (v : Int) := rfl
      rw [hq] at c2
      have hen := encode_enc v
      obtain ⟨E, hE⟩ : ∃ E, Utf8.encode (v : Int) = E := ⟨_, rfl⟩
      rw [hE] at hen
      have HEN : Hid (E = ⟨(enc v).toArray⟩) := hen
      clear hlt65 hq hen
      by_cases hok : v < 55296 ∨ 57344 ≤ v
      · have HN : Hid (num (some v) 1114111 (4 + 2) = (v, 4 + 2)) := num_some_ok (by omega) hok
        have hok2 : (v : Int) < 55296 ∨ ¬ (v : Int) < 55296 ∧ (57343 : Int) < (v : Int) := by omega
        clear hok
        rcases hok2 with hok | ⟨hok, hok2⟩
        all_goals
          go_enter Tryd.func43, Tryd.ntmps43
          go_wp2_with fail
          refine c2.mono ?_
          rintro e w1 ⟨rfl, rfl⟩
          go_wp2
          go_ret2
          exact ⟨by rw [HN.out, HEN.out]; rfl, rfl⟩
      · have HN : Hid (num (some v) 1114111 (4 + 2) = (0, 0)) := by show _ = _; simp [num, hok]
        obtain ⟨z, hz⟩ : ∃ z : Int, (v : Int) = z := ⟨_, rfl⟩
        have hok0 : 0 ≤ z := by omega
        have hok1 : 55296 ≤ z := by omega
        have hok2 : z ≤ 57343 := by omega
        rw [hz] at c2
        clear hok hz hE hv HEN
        go_enter Tryd.func43, Tryd.ntmps43
        go_wp2_with fail
        refine c2.mono ?_
        rintro e w1 ⟨rfl, rfl⟩
        go_wp2
        go_ret2
        exact ⟨by rw [HN.out, escR_zero]; rfl, rfl⟩
  · simp only [if_true] at hc hm hn
    subst hm hn hmm
    rw [hc] at hidx
    have c2 : Calls Tryd.prog 53 #[.string s, .int .i64 (i + 1), .int .i64 2] w fun e w' => e = .returned (.int .i64 (optI R)) ∧ w' = w := c
    clear c hc
    cases R with
    | none =>
      have hq : optI none = -1 := rfl
      rw [hq] at c2
      clear hq
      go_enter Tryd.func43, Tryd.ntmps43
      go_wp2_with fail
      refine c2.mono ?_
      rintro e w1 ⟨rfl, rfl⟩
      go_wp2
      go_ret2
      exact ⟨rfl, rfl⟩
    | some v =>
      have hv := hlt65 v rfl
      have hq : optI (some v) = (v : Int) := rfl
      rw [hq] at c2
      have hen := encode_enc v
      obtain ⟨E, hE⟩ : ∃ E, Utf8.encode (v : Int) = E := ⟨_, rfl⟩
      rw [hE] at hen
      have HEN : Hid (E = ⟨(enc v).toArray⟩) := hen
      clear hlt65 hq hen
      by_cases hok : v ≤ 127
      · have HN : Hid (num (some v) 127 (2 + 2) = (v, 2 + 2)) := num_some_ok hok (by omega)
        have hok2 : (v : Int) < 128 := by omega
        clear hok
        go_enter Tryd.func43, Tryd.ntmps43
        go_wp2_with fail
        refine c2.mono ?_
        rintro e w1 ⟨rfl, rfl⟩
        go_wp2
        go_ret2
        exact ⟨by rw [HN.out, HEN.out]; rfl, rfl⟩
      · have HN : Hid (num (some v) 127 (2 + 2) = (0, 0)) := by show _ = _; simp [num, hok]
        obtain ⟨z, hz⟩ : ∃ z : Int, (v : Int) = z := ⟨_, rfl⟩
        have hok0 : 0 ≤ z := by omega
        have hok1 : 128 ≤ z := by omega
        have hok2 : z ≤ 65536 := by omega
        rw [hz] at c2
        clear hok hz hE hv HEN
        go_enter Tryd.func43, Tryd.ntmps43
        go_wp2_with fail
        refine c2.mono ?_
        rintro e w1 ⟨rfl, rfl⟩
        go_wp2
        go_ret2
        exact ⟨by rw [HN.out, escR_zero]; rfl, rfl⟩
end Go.Proofs.YtkppnncpejohgaaDoor
